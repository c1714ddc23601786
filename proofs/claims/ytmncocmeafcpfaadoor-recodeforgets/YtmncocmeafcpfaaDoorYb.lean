/- Movers in memory; the calls of one whose blob has one shard. -/
import Derived.Test.YtmncocmeafcpfaaDoorQh
import Derived.Test.YtmncocmeafcpfaaDoorYa
import Derived.Lib.MinMax
import Derived.Handy
namespace Go.Proofs.YtmncocmeafcpfaaDoor
set_option linter.unusedVariables false
set_option linter.unusedSimpArgs false
open Go.RowKit Go.Deep

abbrev code10 : Value := .agg #[.int .i64 1, .int .i64 0]

set_option maxRecDepth 100000 in
set_option maxHeartbeats 800000 in
theorem can10 (w : World) : Calls Tryd.prog 112 #[code10] w fun e w' => e = .returned (.bool true) ∧ Kp (fun _ => False) w w' := by
  go_enter Tryd.func112, Tryd.ntmps112
  go_wp2
  go_ret
  exact ⟨rfl, (Kp.refl _ _).alloc _⟩

set_option maxRecDepth 100000 in
set_option maxHeartbeats 800000 in
theorem length10 (w : World) : Calls Tryd.prog 95 #[code10, .int .i64 5] w fun e w' => e = .returned (.int .i64 8) ∧ Kp (fun _ => False) w w' := by
  have H : Hid (∀ z, Calls Tryd.prog 112 #[code10] z _) := fun z => can10 z
  have hl : Lv (w.alloc (.cells #[.int .i64 1, .int .i64 0] 26)) w.heap.size [.int .i64 1, .int .i64 0] := Lv.new w _ _
  have k0 : Kp (fun _ => False) w (w.alloc (.cells #[.int .i64 1, .int .i64 0] 26)) := (Kp.refl _ _).alloc _
  have c0 := hl.cell (j := 0) rfl
  have c1 := hl.cell (j := 1) rfl
  go_enter Tryd.func95, Tryd.ntmps95
  go_wp2_with (first
    | (at_builtin; fail)
    | (go_at_call 112; refine (H.out _).mono ?_; rintro e w1 ⟨rfl, k1⟩; have d0 := k1.cellv c0 id; have d1 := k1.cellv c1 id))
  go_ret
  exact ⟨rfl, k0.trans k1 (fun _ _ e => e)⟩

set_option maxRecDepth 100000 in
set_option maxHeartbeats 800000 in
theorem isNode_ok (n : Int) (w : World) : Calls Tryd.prog 48 #[.int .i64 n] w fun e w' => e = .returned (.bool (decide (0 ≤ n) && decide (n < 16))) ∧ w' = w := by
  by_cases h : 0 ≤ n
  · go_enter Tryd.func48, Tryd.ntmps48
    go_wp2
    go_ret
    exact ⟨by simp [h], rfl⟩
  · go_enter Tryd.func48, Tryd.ntmps48
    go_wp2
    go_ret
    exact ⟨by rw [decide_eq_false (show ¬ 0 ≤ n by omega)]; rfl, rfl⟩

set_option maxRecDepth 100000 in
set_option maxHeartbeats 800000 in
theorem fit10 (b o c : Nat) (w : World) (h3 : w.cell? ⟨b, o, none⟩ = some (.int .i64 3)) (hc : 1 ≤ c) : Calls Tryd.prog 57 #[code10, .int .i64 5, .slice (some ⟨b, o, none⟩) 1 c] w fun e w' => e = .returned (.bool true) ∧ Kp (fun _ => False) w w' := by
  have H1 : Hid (∀ z, Calls Tryd.prog 95 #[code10, .int .i64 5] z _) := fun z => length10 z
  have H2 : Hid (∀ z, Calls Tryd.prog 48 #[.int .i64 3] z _) := fun z => isNode_ok 3 z
  have hl : Lv (w.alloc (.cells #[.int .i64 1, .int .i64 0] 26)) w.heap.size [.int .i64 1, .int .i64 0] := Lv.new w _ _
  have k0 : Kp (fun _ => False) w (w.alloc (.cells #[.int .i64 1, .int .i64 0] 26)) := (Kp.refl _ _).alloc _
  have c0 := hl.cell (j := 0) rfl
  have c1 := hl.cell (j := 1) rfl
  have HC : Hid (1 ≤ c) := hc
  go_enter Tryd.func57, Tryd.ntmps57
  go_wp2
  go_step3
  go_wp2_with (go_at_call 95; refine (H1.out _).mono ?_; rintro e w1 ⟨rfl, k1⟩; have d0 := k1.cellv c0 id; have d1 := k1.cellv c1 id; have d3 := (k0.trans k1 (fun _ _ e => e)).cellv h3 id)
  go_step3
  go_wp2
  go_loopg [7, 28] 1 (fun gk f i wr => ∃ (k : Nat), k ≤ 1 ∧ gk = 1 - k ∧ f = .bool true ∧ i = .int .i64 k ∧ wr = w1)
  case atStart => exact ⟨0, by omega, rfl, rfl, rfl, rfl⟩
  case round =>
    obtain ⟨k, hk, rfl, rfl, rfl, rfl⟩ := hrel
    by_cases h : k = 0
    · subst h
      go_wp2_with (go_at_call 48; refine (H2.out _).mono ?_; rintro e w2 ⟨rfl, rfl⟩)
      go_loopg [7, 40] 0 (fun gk f i wr => gk = 0 ∧ f = .bool true ∧ i = .int .i64 0 ∧ wr = w2)
      case atStart => exact ⟨rfl, rfl, rfl, rfl⟩
      case round =>
        obtain ⟨rfl, rfl, rfl, rfl⟩ := hrel
        go_wp2
        go_roundg 0
        case rel => exact ⟨1, by omega, rfl, rfl, by go_num, rfl⟩
        case measure => omega
    · obtain rfl : k = 1 := by omega
      go_wp2
      rw [Exit.noGoto_ret]
      go_ret
      exact ⟨rfl, k0.trans k1 (fun _ _ e => e)⟩

/-- a blob, but its nodes -/
structure Bs0 where
  id : Int
  size : Int
  sum : Int
  k : Int
  m : Int
abbrev blobA (c : Bs0) (nv : Value) : Array Value := #[.int .i64 c.id, .int .i64 c.size, .int .u32 c.sum, .int .i64 c.k, .int .i64 c.m, nv]
abbrev zeroB : Array Value := #[.int .i64 0, .int .i64 0, .int .u32 0, .int .i64 0, .int .i64 0, .slice none 0 0]
theorem blob_one (c : Bs0) {v : Value} (hv : v.oneCell' = true) : (blobA c v).toList.toArray.all (·.oneCell') = true := all_oneCell_toArray (fun x hx => by
  simp only [List.mem_cons, List.not_mem_nil, or_false] at hx
  rcases hx with rfl | rfl | rfl | rfl | rfl | rfl <;> first | rfl | exact hv)
theorem szBlob : (Tryd.prog.info? 33).map (·.size) = some 6 := by kernel_rfl
theorem dsBlob : ∃ d, Tryd.prog.underlying 33 = some d ∧ d.isRow = true := ⟨_, Tryd.underlying33, rfl⟩

set_option maxRecDepth 100000 in
set_option maxHeartbeats 1600000 in
theorem cloneBlob_ok (c : Bs0) (Z : Nat → Prop) (p : Option Addr) (cap : Nat) (zs : List Int) (w : World) (h : Fl w Z p (zs.map encI)) (hn : Hid (zs.length * 8 ≤ 140737488355328)) :
    Calls Tryd.prog 89 #[.agg (blobA c (.slice p zs.length cap))] w fun e w' => ∃ q cq, e = .returned (.agg (blobA c (.slice q zs.length cq))) ∧ Kp (fun _ => False) w w' ∧ Fl w' (fun b => w.heap.size ≤ b ∧ b < w'.heap.size) q (zs.map encI) := by
  have H : Hid (∀ u, Kp (fun _ => False) w u → Calls _ _ _ u _) := fun u k => clone_ints Z p cap zs u (h.keep k (fun _ _ => id)) hn
  obtain ⟨n, hnn⟩ : ∃ n, n = zs.length := ⟨_, rfl⟩
  have HNN : Hid (n = zs.length) := hnn
  rw [← hnn] at H ⊢
  clear h hn hnn
  go_enter Tryd.func89, Tryd.ntmps89
  go_wp2_with fail
  obtain ⟨u, hu⟩ : ∃ x, x = (w.alloc (.cells (blobA c (.slice p n cap)) 33)).alloc (.cells zeroB 33) := ⟨_, rfl⟩
  have z1 : (w.alloc (.cells (blobA c (.slice p n cap)) 33)).heap.size = w.heap.size + 1 := by simp
  have HL1 : Hid (Lv u w.heap.size (blobA c (.slice p n cap)).toList) := by rw [hu]; exact (Lv.new w _ _).keep ((Kp.refl (fun _ => False) _).alloc _) id
  have HL2 : Hid (Lv u (w.heap.size + 1) zeroB.toList) := by rw [hu, ← z1]; exact Lv.new _ _ _
  have k0 : Kp (fun _ => False) w u := by rw [hu]; exact ((Kp.refl _ _).alloc _).alloc _
  have e0 : (w.alloc (.cells (blobA c (.slice p n cap)) 33)).alloc (.cells zeroB 33) = u := hu.symm
  rw [show ((w.alloc (.cells (blobA c (.slice p n cap)) 33)).alloc (.cells #[.int .i64 0, .int .i64 0, .int .u32 0, .int .i64 0, .int .i64 0, .slice none 0 0] 33)) = u from e0]
  clear e0 hu z1
  obtain ⟨g, hg⟩ : ∃ g, g = w.heap.size := ⟨_, rfl⟩
  obtain ⟨r, hr⟩ : ∃ r, r = w.heap.size + 1 := ⟨_, rfl⟩
  rw [← hg] at HL1
  rw [← hr] at HL2
  rw [← hr, ← hg]
  have HGR : Hid (w.heap.size ≤ g ∧ w.heap.size ≤ r ∧ g ≠ r ∧ g < u.heap.size ∧ r < u.heap.size) := by
    show _ ∧ _
    have h1 := HL1.out.lt (by simp)
    have h2 := HL2.out.lt (by decide)
    omega
  clear hg hr
  refine (H.out u k0).mono ?_
  rintro e w1 ⟨v, rfl, k1, hown⟩
  obtain ⟨q, cq, rfl, hfl⟩ := own_fl hown
  have HFl : Hid (Fl w1 (fun b => u.heap.size ≤ b ∧ b < w1.heap.size) q (zs.map encI)) := hfl
  have HL1a : Hid (Lv w1 g (blobA c (.slice p n cap)).toList) := HL1.out.keep k1 id
  have HL2a : Hid (Lv w1 r zeroB.toList) := HL2.out.keep k1 id
  have c5 : w1.cell? ⟨g, 5, none⟩ = some (.slice p n cap) := HL1a.out.cell (j := 5) rfl
  have f5 : w1.frozen? ⟨g, 5, none⟩ = false := HL1a.out.fz (show 5 < 6 by omega)
  have HF : Hid (Lv (w1.setCell ⟨g, 5, none⟩ (.slice q n cq)) g (blobA c (.slice q n cq)).toList ∧ Lv (w1.setCell ⟨g, 5, none⟩ (.slice q n cq)) r zeroB.toList ∧ Kp (fun b => b = g) w1 (w1.setCell ⟨g, 5, none⟩ (.slice q n cq))) := by
    have ks : Kp (fun b => b = g) w1 (w1.setCell ⟨g, 5, none⟩ (.slice q n cq)) := (Kp.refl (fun b => b = g) w1).setCell (fun _ => rfl) _
    exact ⟨HL1a.out.set1 5 _ (show 5 < 6 by omega), HL2a.out.keep ks (fun e => HGR.out.2.2.1 e.symm), ks⟩
  have HO : Hid ((blobA c (.slice q n cq)).toList.toArray.all (·.oneCell') = true) := blob_one _ rfl
  clear HL1 HL2 H hown hfl
  go_wp2_with (first
    | (refine wpList_load_all rfl 33 _ rfl 6 g (blobA c (.slice q n cq)).toList rfl HF.out.1 dsBlob szBlob rfl ?_)
    | (refine wpList_store_all rfl 33 _ _ rfl 6 r zeroB.toList (blobA c (.slice q n cq)).toList rfl rfl HF.out.2.1 szBlob rfl rfl HO.out ?_; intro w3 hl3 k3))
  refine bodyPost_ret (res_cell Tryd.results89 _ _ r _ rfl (hl3.load dsBlob szBlob rfl)) rfl ?_
  have kk : Kp (fun b => b = g ∨ b = r) w1 w3 := (HF.out.2.2.mono (fun _ _ e => Or.inl e)).trans k3 (fun _ _ e => Or.inr e)
  refine ⟨q, ⟨cq, rfl⟩, (k0.trans k1 (fun _ _ e => e)).trans kk (fun b hb e => by have := HGR.out; omega), ?_⟩
  refine (HFl.out.keep kk (fun b hb e => by have := HGR.out; omega)).mono (fun b hb => ⟨Nat.le_trans k0.size hb.1, Nat.lt_of_lt_of_le hb.2 kk.size⟩)
theorem infoBs : (Tryd.prog.info? 22).map (fun i => (i.zero, i.size, i.bytes)) = some (some (.slice none 0 0), 1, 24) := by kernel_rfl
theorem made1 : madeCells #[Value.slice none 0 0] 1 = #[Value.slice none 0 0] := by simp [madeCells]; exact ⟨0, rfl, rfl⟩
theorem make1 (w : World) : (Instr.makeSlice 27 (.int .i64 1) (.int .i64 1)).run Tryd.prog w = .ok (.slice (some ⟨w.heap.size, 0, none⟩) 1 1) (w.alloc (.cells #[.slice none 0 0] 22)) := by
  rw [← made1]
  exact run_make_row' (P := Tryd.prog) 27 22 (.slice none 0 0) 24 Tryd.underlying27 infoBs rfl .i64 .i64 1 (by omega) (by omega) w

/-- what a fetch of a blob has -/
abbrev fetA (c : Bs0) (nv cv : Value) (k : Int) : List Value := [.int .i64 c.id, .int .i64 c.size, .int .u32 c.sum, .int .i64 c.k, .int .i64 c.m, nv, cv, .int .i64 k]
abbrev b95 : Bs0 := ⟨9, 5, 0, 1, 0⟩

set_option maxRecDepth 100000 in
set_option maxHeartbeats 1600000 in
theorem newFetch10 (b o c : Nat) (w : World) (h3 : w.cell? ⟨b, o, none⟩ = some (.int .i64 3)) (hc : 1 ≤ c) : Calls Tryd.prog 47 #[.agg (blobA b95 (.slice (some ⟨b, o, none⟩) 1 c))] w fun e w' => ∃ f q oq cq g, e = .returned (.tuple #[.pointer (some ⟨f, 0, none⟩), .bool true]) ∧ Kp (fun _ => False) w w' ∧ w.heap.size ≤ f ∧ w.heap.size ≤ q ∧ w.heap.size ≤ g ∧ f ≠ g ∧ f ≠ q ∧ q ≠ g ∧ Lv w' f (fetA b95 (.slice (some ⟨q, oq, none⟩) 1 cq) (.slice (some ⟨g, 0, none⟩) 1 1) 0) ∧ Lv w' g [.slice none 0 0] ∧ w'.cell? ⟨q, oq, none⟩ = some (.int .i64 3) := by
  have H1 : Hid (∀ z, Kp (fun _ => False) w z → Calls Tryd.prog 57 #[code10, .int .i64 5, .slice (some ⟨b, o, none⟩) 1 c] z _) := fun z k => fit10 b o c z (k.cellv h3 id) hc
  have hf : Fl w (fun _ => True) (some ⟨b, o, none⟩) ([(3 : Int)].map encI) := fun j u hu => by
    match j with
    | 0 => simp at hu; subst hu; exact ⟨b, o, rfl, trivial, h3⟩
    | j + 1 => simp at hu
  have H2 : Hid (∀ z, Kp (fun _ => False) w z → Calls Tryd.prog 89 #[.agg (blobA b95 (.slice (some ⟨b, o, none⟩) 1 c))] z fun e w' => ∃ q cq, e = .returned (.agg (blobA b95 (.slice q 1 cq))) ∧ Kp (fun _ => False) z w' ∧ Fl w' (fun b => z.heap.size ≤ b ∧ b < w'.heap.size) q ([(3 : Int)].map encI)) := fun z k => cloneBlob_ok b95 _ _ c [3] z (hf.keep k (fun _ _ => id)) (by show _ ≤ _; decide)
  have hl : Lv (w.alloc (.cells (blobA b95 (.slice (some ⟨b, o, none⟩) 1 c)) 33)) w.heap.size (blobA b95 (.slice (some ⟨b, o, none⟩) 1 c)).toList := Lv.new w _ _
  have k0 : Kp (fun _ => False) w (w.alloc (.cells (blobA b95 (.slice (some ⟨b, o, none⟩) 1 c)) 33)) := (Kp.refl _ _).alloc _
  have c0 := hl.cell (j := 0) rfl
  have c1 := hl.cell (j := 1) rfl
  have c2 := hl.cell (j := 2) rfl
  have c3 := hl.cell (j := 3) rfl
  have c4 := hl.cell (j := 4) rfl
  have c5 := hl.cell (j := 5) rfl
  clear hf hl
  go_enter Tryd.func47, Tryd.ntmps47
  go_wp2_with (go_at_call 57; refine (H1.out _ k0).mono ?_; rintro e w1 ⟨rfl, k1⟩; have d0 := k1.cellv c0 id; have d1 := k1.cellv c1 id; have d2 := k1.cellv c2 id; have d3 := k1.cellv c3 id; have d4 := k1.cellv c4 id; have d5 := k1.cellv c5 id)
  have k01 := k0.trans k1 (fun _ _ e => e)
  have HKW : Hid (Kp (fun _ => False) w w1) := k01
  have hmk := make1
  have H3 : Hid (∀ z, Kp (fun _ => False) w1 z → Calls Tryd.prog 89 #[.agg (blobA b95 (.slice (some ⟨b, o, none⟩) 1 c))] z fun e w' => ∃ q oq cq, e = .returned (.agg (blobA b95 (.slice (some ⟨q, oq, none⟩) 1 cq))) ∧ Kp (fun _ => False) z w' ∧ z.heap.size ≤ q ∧ q < w'.heap.size ∧ w'.cell? ⟨q, oq, none⟩ = some (.int .i64 3) ∧ w'.cell? ⟨w.heap.size, 5, none⟩ = some (.slice (some ⟨b, o, none⟩) 1 c)) := fun z kz => by
    refine (H2.out z (k01.trans kz (fun _ _ e => e))).mono ?_
    rintro e w' ⟨q, cq, rfl, k2, f2⟩
    obtain ⟨q0, oq, rfl, hz, hc3⟩ := f2 0 _ rfl
    exact ⟨q0, oq, cq, rfl, k2, hz.1, hz.2, hc3, k2.cellv (kz.cellv d5 id) id⟩
  clear H1 H2
  have k1d := (Kp.refl (fun _ => False) w1).drew
  have k1e := ((Kp.refl (fun _ => False) w1).alloc (.cells #[.slice none 0 0] 22)).drew
  have k1f := (Kp.refl (fun _ => False) w1).alloc (.cells #[.slice none 0 0] 22)
  have b0 := k1f.cellv d0 id
  have b1 := k1f.cellv d1 id
  have b2 := k1f.cellv d2 id
  have b3 := k1f.cellv d3 id
  have b4 := k1f.cellv d4 id
  have b5 := k1f.cellv d5 id
  clear k1f
  go_region_with (go_at_call 89; refine (H3.out _ (by first | exact k1d | exact k1e)).mono ?_; rintro e w2 ⟨q, oq, cq, rfl, k2, hq, hq2, f2, e5⟩)
  all_goals go_wp2
  all_goals go_ret2
  all_goals clear b0 b1 b2 b3 b4 b5 d0 d1 d2 d3 d4 d5 c0 c1 c2 c3 c4 c5 e5
  all_goals have s1 := HKW.out.size
  all_goals have s2 := k2.size
  all_goals have q1 := hq
  all_goals simp only [World.size_alloc, World.size_drew] at s2 q1
  all_goals first
    | (refine ⟨_, q, oq, cq, _, rfl, (((HKW.out.drew).trans k2 (fun _ _ e => e)).alloc _).alloc _, ?_, ?_, ?_, ?_, ?_, ?_, (by have hh := Lv.new (w2.alloc (.cells #[.slice none 0 0] 22)) (fetA b95 (.slice (some ⟨q, oq, none⟩) 1 cq) (.slice (some ⟨w2.heap.size, 0, none⟩) 1 1) 0).toArray 143; rw [World.size_alloc] at hh; exact hh), (Lv.new _ _ _).keep ((Kp.refl (fun _ => False) _).alloc _) id, (((Kp.refl (fun _ => False) w2).alloc _).alloc _).cellv f2 id⟩ <;> omega)
    | (refine ⟨_, q, oq, cq, _, rfl, (((HKW.out.alloc _).drew).trans k2 (fun _ _ e => e)).alloc _, ?_, ?_, ?_, ?_, ?_, ?_, Lv.new _ _ _, (((Lv.new w1 #[.slice none 0 0] 22).keep ((Kp.refl (fun _ => False) _).drew) id).keep k2 id).keep ((Kp.refl (fun _ => False) _).alloc _) id, ((Kp.refl (fun _ => False) w2).alloc _).cellv f2 id⟩ <;> omega)
end Go.Proofs.YtmncocmeafcpfaaDoor
