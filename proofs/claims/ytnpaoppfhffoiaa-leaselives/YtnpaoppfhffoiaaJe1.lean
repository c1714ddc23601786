/- A shard that waits is laid behind the others: the row. -/
import Derived.Test.YtnpaoppfhffoiaaJc
import Derived.Test.YtnpaoppfhffoiaaTk
namespace Go.Proofs.Ytnpaoppfhffoiaa
set_option linter.unusedVariables false
open Go.RowKit Go.Deep Go.Maps

theorem infoW0 : (Try.prog.info? 65).map (fun i => (i.zero.map (·.cells.size), i.size, i.bytes)) = some (some 3, 3, 24) := by kernel_rfl
theorem infoW : ∃ i z, Try.prog.info? 65 = some i ∧ i.zero = some z ∧ i.size = 3 ∧ i.bytes = 24 ∧ z.cells.size = 3 := by
  obtain ⟨i, hi, he⟩ := Option.map_eq_some_iff.1 infoW0
  simp only [Prod.mk.injEq] at he
  obtain ⟨h1, h2, h3⟩ := he
  obtain ⟨z, hz, h4⟩ := Option.map_eq_some_iff.1 h1
  exact ⟨i, z, hi, hz, h2, h3, h4⟩
theorem uWs : Try.prog.underlying 59 = some (.slice 65) := Try.underlying59
theorem pu_0 (h : Nat) (ev : Operand → Value) (z : World) (e0 : ev (.tmp 0) = .pointer (some ⟨h, 0, none⟩)) : (execOp ev ⟨some 18, Op.move (Operand.tmp 0), 52, "", #[], none⟩).run Try.prog z = .ok (.value (.pointer (some ⟨h, 0, none⟩))) z := by go_simp
theorem pu_1 (h : Nat) (ev : Operand → Value) (z : World) (e0 : ev (.tmp 0) = .pointer (some ⟨h, 0, none⟩)) : (execOp ev ⟨some 19, Op.move (Operand.tmp 0), 52, "", #[], none⟩).run Try.prog z = .ok (.value (.pointer (some ⟨h, 0, none⟩))) z := by go_simp
theorem pu_2 (h : Nat) (ev : Operand → Value) (z : World) (e0 : ev (.tmp 19) = .pointer (some ⟨h, 0, none⟩)) : (execOp ev ⟨some 20, Op.nilCheck (Operand.tmp 19), 0, "", #[], none⟩).run Try.prog z = .ok (.value (.pointer (some ⟨h, 0, none⟩))) z := by go_simp
theorem pu_3 (h : Nat) (ev : Operand → Value) (z : World) (e0 : ev (.tmp 20) = .pointer (some ⟨h, 0, none⟩)) : (execOp ev ⟨some 21, Op.fieldAddr 61 (Operand.tmp 20) 0, 0, "", #[], none⟩).run Try.prog z = .ok (.value (.pointer (some ⟨h, 0, none⟩))) z := by go_simp
theorem pu_4 (h : Nat) (v : Value) (ev : Operand → Value) (z : World) (e0 : ev (.tmp 21) = .pointer (some ⟨h, 0, none⟩)) (c : z.cell? ⟨h, 0, none⟩ = some v) : (execOp ev ⟨some 22, Op.load 59 (Operand.tmp 21), 59, "", #[], none⟩).run Try.prog z = .ok (.value v) z := by go_simp
theorem pu_5 (r : Nat) (eb ei et : Int) (ev : Operand → Value) (z : World) (e0 : ev (.tmp 4) = .pointer (some ⟨r, 0, none⟩)) (hS : z.cell? ⟨r, 0, none⟩ = some (.int .i64 eb) ∧ z.cell? ⟨r, 1, none⟩ = some (.int .i64 ei) ∧ z.cell? ⟨r, 2, none⟩ = some (.int .i64 et)) : (execOp ev ⟨some 23, Op.load 65 (Operand.tmp 4), 65, "", #[], none⟩).run Try.prog z = .ok (.value (.agg #[.int .i64 eb, .int .i64 ei, .int .i64 et])) z := by
  obtain ⟨s1, s2, s3⟩ := hS
  go_simp
theorem pu_6 (eb ei et : Int) (ev : Operand → Value) (z : World) (e0 : ev (.tmp 23) = .agg #[.int .i64 eb, .int .i64 ei, .int .i64 et]) : (execOp ev ⟨some 24, Op.buildSlice 59 1 #[(0, Operand.tmp 23)], 59, "", #[], none⟩).run Try.prog z = .ok (.value (.slice (some ⟨z.heap.size, 0, none⟩) 1 1)) (z.alloc (.cells #[.int .i64 eb, .int .i64 ei, .int .i64 et] 65)) := by go_simp
theorem pu_7 (v x v2 : Value) (ev : Operand → Value) (z z2 : World) (e0 : ev (.tmp 22) = v) (e1 : ev (.tmp 24) = x) (hr : (Builtin.append_ #[59, 59] 59 #[v, x]).run Try.prog z = .ok v2 z2) : (execOp ev ⟨some 25, Op.call { callee := Callee.builtin Builtin.append, args := #[Operand.tmp 22, Operand.tmp 24], argTypes := #[59, 59] }, 59, "", #[], none⟩).run Try.prog z = .ok (.value v2) z2 := by
  unfold execOp
  simp only [resolve, invoke, builtin, Sem.run_bind, Sem.run_pure, Result.andThen_ok, List.map_toArray, List.map_cons, List.map_nil, e0, e1, hr]
theorem pu_8 (h : Nat) (ev : Operand → Value) (z : World) (e0 : ev (.tmp 18) = .pointer (some ⟨h, 0, none⟩)) : (execOp ev ⟨some 26, Op.nilCheck (Operand.tmp 18), 0, "", #[], none⟩).run Try.prog z = .ok (.value (.pointer (some ⟨h, 0, none⟩))) z := by go_simp
theorem pu_9 (h : Nat) (ev : Operand → Value) (z : World) (e0 : ev (.tmp 26) = .pointer (some ⟨h, 0, none⟩)) : (execOp ev ⟨some 27, Op.fieldAddr 61 (Operand.tmp 26) 0, 0, "", #[], none⟩).run Try.prog z = .ok (.value (.pointer (some ⟨h, 0, none⟩))) z := by go_simp
theorem pu_10 (h g n c : Nat) (v : Value) (ev : Operand → Value) (z : World) (e0 : ev (.tmp 27) = .pointer (some ⟨h, 0, none⟩)) (e1 : ev (.tmp 25) = .slice (some ⟨g, 0, none⟩) n c) (hc : z.cell? ⟨h, 0, none⟩ = some v) (hf : z.frozen? ⟨h, 0, none⟩ = false) : (execOp ev ⟨none, Op.store 59 (Operand.tmp 27) (Operand.tmp 25), 0, "", #[], none⟩).run Try.prog z = .ok .skip (z.setCell ⟨h, 0, none⟩ (.slice (some ⟨g, 0, none⟩) n c)) := by go_simp
structure PuR (ops : Array Oper) : Prop where
  size : ops.size = 11
  sel : Region.noSelect ops = true
  head : [0, 1, 2, 3, 5].map (fun i => (ops[i]?).map bare) = [⟨some 18, Op.move (Operand.tmp 0), 52, "", #[], none⟩, ⟨some 19, Op.move (Operand.tmp 0), 52, "", #[], none⟩, ⟨some 20, Op.nilCheck (Operand.tmp 19), 0, "", #[], none⟩, ⟨some 21, Op.fieldAddr 61 (Operand.tmp 20) 0, 0, "", #[], none⟩, ⟨some 23, Op.load 65 (Operand.tmp 4), 65, "", #[], none⟩].map some
  may : takeB .any ops [0, 1, 2, 3, 5] (Array.replicate 11 false) = true
  r46 : Region.ready .any ops (mark [0, 1, 2, 3, 5] (Array.replicate 11 false)) = [4, 6]
  o4 : (ops[4]?).map bare = some ⟨some 22, Op.load 59 (Operand.tmp 21), 59, "", #[], none⟩
  o6 : (ops[6]?).map bare = some ⟨some 24, Op.buildSlice 59 1 #[(0, Operand.tmp 23)], 59, "", #[], none⟩
  r6 : Region.ready .any ops ((mark [0, 1, 2, 3, 5] (Array.replicate 11 false)).setIfInBounds 4 true) = [6]
  r4 : Region.ready .any ops ((mark [0, 1, 2, 3, 5] (Array.replicate 11 false)).setIfInBounds 6 true) = [4]
  r7 : Region.ready .any ops (((mark [0, 1, 2, 3, 5] (Array.replicate 11 false)).setIfInBounds 4 true).setIfInBounds 6 true) = [7]
  o7 : (ops[7]?).map bare = some ⟨some 25, Op.call { callee := Callee.builtin Builtin.append, args := #[Operand.tmp 22, Operand.tmp 24], argTypes := #[59, 59] }, 59, "", #[], none⟩
  h8 : [8, 9].map (fun i => (ops[i]?).map bare) = [⟨some 26, Op.nilCheck (Operand.tmp 18), 0, "", #[], none⟩, ⟨some 27, Op.fieldAddr 61 (Operand.tmp 26) 0, 0, "", #[], none⟩].map some
  m8 : takeB .any ops [8, 9] ((((mark [0, 1, 2, 3, 5] (Array.replicate 11 false)).setIfInBounds 4 true).setIfInBounds 6 true).setIfInBounds 7 true) = true
  r10 : Region.ready .any ops (mark [8, 9] ((((mark [0, 1, 2, 3, 5] (Array.replicate 11 false)).setIfInBounds 4 true).setIfInBounds 6 true).setIfInBounds 7 true)) = [10]
  o10 : (ops[10]?).map bare = some ⟨none, Op.store 59 (Operand.tmp 27) (Operand.tmp 25), 0, "", #[], none⟩
  fin : Region.ready .any ops ((mark [8, 9] ((((mark [0, 1, 2, 3, 5] (Array.replicate 11 false)).setIfInBounds 4 true).setIfInBounds 6 true).setIfInBounds 7 true)).setIfInBounds 10 true) = []

set_option maxRecDepth 100000 in
set_option maxHeartbeats 1600000 in
theorem pu_region {ops : Array Oper} {id : Nat} {Q : Exit → Act → World → Prop} {a : Act} {y : World} (R : PuR ops) (h m r n : Nat) (v : Value) (xs : List Value) (eb ei et : Int)
    (hQ : ∀ d v c a w, Q (.panic c) (a.put d v) w → Q (.panic c) a w) (hsz : a.tmps.size = 28) (e0 : a.eval (.tmp 0) = .pointer (some ⟨h, 0, none⟩)) (e4 : a.eval (.tmp 4) = .pointer (some ⟨r, 0, none⟩))
    (hn : n ≤ 1000) (hL : Lv y h [v, .map (some m)]) (hr : Lv y r [.int .i64 eb, .int .i64 ei, .int .i64 et]) (ho : y.ownsRow 0 65 3 v n xs) (hrh : r ≠ h) (hv : ∀ g, v.ownBlock = some g → g ≠ h ∧ g ≠ r)
    (hK : ∀ a' z g c, a'.defers = a.defers → Kp (fun b => b = h ∨ v.ownBlock = some b) y z → Lv z h [.slice (some ⟨g, 0, none⟩) (n + 1) c, .map (some m)] → z.ownsRow 0 65 3 (.slice (some ⟨g, 0, none⟩) (n + 1) c) (n + 1) (xs ++ [.int .i64 eb, .int .i64 ei, .int .i64 et]) → (v.ownBlock = some g ∨ y.heap.size ≤ g) → Q .normal a' z) : (Code.region id ops true).wp Try.prog Q a y := by
  have hhl := hL.lt (by simp)
  have hrl := hr.lt (by simp)
  have kd0 : Kp (fun _ => False) y y.drew := (Kp.refl _ _).drew
  have HS : Hid (∀ z : World, Kp (fun b => b = h ∨ v.ownBlock = some b) y z → z.cell? ⟨r, 0, none⟩ = some (.int .i64 eb) ∧ z.cell? ⟨r, 1, none⟩ = some (.int .i64 ei) ∧ z.cell? ⟨r, 2, none⟩ = some (.int .i64 et)) := fun z kz => by
    have h1 := hr.keep kz (fun e => by
      rcases e with e | e
      · exact hrh e
      · exact (hv r e).2 rfl)
    exact ⟨h1.cell (j := 0) rfl, h1.cell (j := 1) rfl, h1.cell (j := 2) rfl⟩
  refine wp_region_held_drew (S := (fun z : World => z.cell? ⟨r, 0, none⟩ = some (.int .i64 eb) ∧ z.cell? ⟨r, 1, none⟩ = some (.int .i64 ei) ∧ z.cell? ⟨r, 2, none⟩ = some (.int .i64 et))) (by kernel_rfl) (HS.out _ (kd0.mono (fun _ _ e => e.elim))) (fun hHeld => ?_)
  obtain ⟨wd, hwd⟩ : ∃ x, x = y.drew := ⟨_, rfl⟩
  have hsd : wd.heap.size = y.heap.size := by rw [hwd]; rfl
  rw [← hwd] at kd0 hHeld ⊢
  clear hwd
  have k1 : Kp (fun _ => False) y (wd.alloc (.cells #[.int .i64 eb, .int .i64 ei, .int .i64 et] 65)) := kd0.alloc _
  have hx : Lv (wd.alloc (.cells #[.int .i64 eb, .int .i64 ei, .int .i64 et] 65)) wd.heap.size [.int .i64 eb, .int .i64 ei, .int .i64 et] := Lv.new wd _ _
  obtain ⟨w1, hw1⟩ : ∃ x, x = wd.alloc (.cells #[.int .i64 eb, .int .i64 ei, .int .i64 et] 65) := ⟨_, rfl⟩
  obtain ⟨q, hq⟩ : ∃ q, q = wd.heap.size := ⟨_, rfl⟩
  rw [← hw1, ← hq] at hx
  rw [← hw1] at k1
  have hs1 : w1.heap.size = y.heap.size + 1 := by rw [hw1, ← hsd]; simp
  have HC4 : Hid (∀ z, Kp (fun _ => False) y z → z.cell? ⟨h, 0, none⟩ = some v) := fun z kz => (hL.keep kz (fun e => e)).cell (j := 0) rfl
  have hp6 : ∀ ev : Operand → Value, ev (.tmp 23) = .agg #[.int .i64 eb, .int .i64 ei, .int .i64 et] → (execOp ev ⟨some 24, Op.buildSlice 59 1 #[(0, Operand.tmp 23)], 59, "", #[], none⟩).run Try.prog wd = .ok (.value (.slice (some ⟨q, 0, none⟩) 1 1)) w1 := fun ev e => by
    rw [hw1, hq]; exact pu_6 eb ei et ev wd e
  obtain ⟨ti, tz, hi1, hi2, hi3, hi4, hi5⟩ := infoW
  obtain ⟨v2, w2, hap, hown, hgrow, hblk⟩ := run_append_own_src (P := Try.prog) w1 0 59 59 59 65 ti tz 3 24 uWs hi1 hi2 hi3 hi4 hi5 (by decide) v n xs (ownsRow_keep ho k1 (fun _ _ e => e)) (.slice (some ⟨q, 0, none⟩) 1 1) 1 [.int .i64 eb, .int .i64 ei, .int .i64 et] (Src.ofSlice _ uWs ⟨q, 0, none⟩ 1 1 [.int .i64 eb, .int .i64 ei, .int .i64 et] rfl (fun j u hj => by rw [Addr.add_mid, Nat.zero_add]; exact hx.cell hj) (fun u hu => by simp only [List.mem_cons, List.not_mem_nil, or_false] at hu; rcases hu with rfl | rfl | rfl <;> rfl)) (by unfold maxLen; omega) (by omega) (Nat.zero_le _)
  have k2 := grownBy_kp hgrow
  have kw2 : Kp (fun b => b = h ∨ v.ownBlock = some b) y w2 := (k1.mono (fun _ _ e => e.elim)).trans k2 (fun b _ e => Or.inr e)
  have hv' : ∃ g' cap', v2 = .slice (some ⟨g', 0, none⟩) (n + 1) cap' := by
    rcases Joins.ownsRow_forms hown with ⟨e1, e2⟩ | ⟨g', cap', e⟩
    · omega
    · exact ⟨g', cap', e⟩
  obtain ⟨g', cap', rfl⟩ := hv'
  have hL2 : Lv w2 h [v, .map (some m)] := (hL.keep k1 (fun e => e)).keep k2 (fun e => (hv h e).1 rfl)
  have hg2 : v.ownBlock = some g' ∨ y.heap.size ≤ g' := by
    rcases hblk with e | e
    · exact Or.inl e.symm
    · have e' : some g' = some w1.heap.size := e
      injection e' with e'
      exact Or.inr (by omega)
  have hgh : g' ≠ h := by
    rcases hg2 with e | e
    · exact (hv g' e).1
    · omega
  have ks : Kp (fun b => b = h) w2 (w2.setCell ⟨h, 0, none⟩ (.slice (some ⟨g', 0, none⟩) (n + 1) cap')) := (Kp.refl (fun b => b = h) w2).setCell (fun _ => rfl) _
  have kz : Kp (fun b => b = h ∨ v.ownBlock = some b) y (w2.setCell ⟨h, 0, none⟩ (.slice (some ⟨g', 0, none⟩) (n + 1) cap')) := kw2.trans ks (fun b _ e => Or.inl e)
  have HKF : Hid (∀ a' : Act, a'.defers = a.defers → Q .normal a' (w2.setCell ⟨h, 0, none⟩ (.slice (some ⟨g', 0, none⟩) (n + 1) cap'))) := fun a' h1 =>
    hK a' _ g' cap' h1 kz (hL2.set1 0 (.slice (some ⟨g', 0, none⟩) (n + 1) cap') (by simp)) (ownsRow_keep hown ks (fun g0 e e2 => by have e' : some g' = some g0 := e; injection e' with e'; exact hgh (e'.trans e2))) hg2
  have c2 := hL2.cell (j := 0) rfl
  have f2 : w2.frozen? ⟨h, 0, none⟩ = false := hL2.fz (by simp)
  have hdf : a.defers = a.defers := rfl
  have HR : Hid (PuR ops) := R
  have kdm : Kp (fun b => b = h ∨ v.ownBlock = some b) y wd := kd0.mono (fun _ _ e => e.elim)
  have k1m : Kp (fun b => b = h ∨ v.ownBlock = some b) y w1 := k1.mono (fun _ _ e => e.elim)
  rw [R.size]
  refine wpAnyH_tk R.sel hQ hHeld [0, 1, 2, 3, 5] [⟨some 18, Op.move (Operand.tmp 0), 52, "", #[], none⟩, ⟨some 19, Op.move (Operand.tmp 0), 52, "", #[], none⟩, ⟨some 20, Op.nilCheck (Operand.tmp 19), 0, "", #[], none⟩, ⟨some 21, Op.fieldAddr 61 (Operand.tmp 20) 0, 0, "", #[], none⟩, ⟨some 23, Op.load 65 (Operand.tmp 4), 65, "", #[], none⟩] 6 _ _ R.head (by kernel_rfl) R.may (fun Kt hKt => ?_)
  clear R
  refine wpTk_step 18 (.pointer (some ⟨h, 0, none⟩)) rfl (by rw [hsz]; decide) (fun z _ => pu_0 h _ z e0) ?_
  intro a1 s1 f1 n1 k1
  replace hsz := s1.trans hsz
  replace hdf := f1.trans hdf
  replace e0 := (k1 0 (by decide)).trans e0
  replace e4 := (k1 4 (by decide)).trans e4
  have e18 := n1
  clear s1 f1 n1 k1
  refine wpTk_step 19 (.pointer (some ⟨h, 0, none⟩)) rfl (by rw [hsz]; decide) (fun z _ => pu_1 h _ z e0) ?_
  intro a1 s1 f1 n1 k1
  replace hsz := s1.trans hsz
  replace hdf := f1.trans hdf
  replace e0 := (k1 0 (by decide)).trans e0
  replace e4 := (k1 4 (by decide)).trans e4
  replace e18 := (k1 18 (by decide)).trans e18
  have e19 := n1
  clear s1 f1 n1 k1
  refine wpTk_step 20 (.pointer (some ⟨h, 0, none⟩)) rfl (by rw [hsz]; decide) (fun z _ => pu_2 h _ z e19) ?_
  intro a1 s1 f1 n1 k1
  replace hsz := s1.trans hsz
  replace hdf := f1.trans hdf
  replace e4 := (k1 4 (by decide)).trans e4
  replace e18 := (k1 18 (by decide)).trans e18
  have e20 := n1
  clear s1 f1 n1 k1
  refine wpTk_step 21 (.pointer (some ⟨h, 0, none⟩)) rfl (by rw [hsz]; decide) (fun z _ => pu_3 h _ z e20) ?_
  intro a1 s1 f1 n1 k1
  replace hsz := s1.trans hsz
  replace hdf := f1.trans hdf
  replace e4 := (k1 4 (by decide)).trans e4
  replace e18 := (k1 18 (by decide)).trans e18
  have e21 := n1
  clear s1 f1 n1 k1
  refine wpTk_step 23 (.agg #[.int .i64 eb, .int .i64 ei, .int .i64 et]) rfl (by rw [hsz]; decide) (fun z hS => pu_5 r eb ei et _ z e4 hS) ?_
  intro a1 s1 f1 n1 k1
  replace hsz := s1.trans hsz
  replace hdf := f1.trans hdf
  replace e18 := (k1 18 (by decide)).trans e18
  replace e21 := (k1 21 (by decide)).trans e21
  have e23 := n1
  clear s1 f1 n1 k1
  refine wpTk_nil (hKt.out _ ?_)
  clear hKt Kt
  have HREST : Hid (∀ a9 : Act, a9.tmps.size = 28 → a9.defers = a.defers → a9.eval (.tmp 18) = .pointer (some ⟨h, 0, none⟩) → a9.eval (.tmp 22) = v → a9.eval (.tmp 24) = .slice (some ⟨q, 0, none⟩) 1 1 → wpAnyH Try.prog .any ops Q (fun z : World => z.cell? ⟨r, 0, none⟩ = some (.int .i64 eb) ∧ z.cell? ⟨r, 1, none⟩ = some (.int .i64 ei) ∧ z.cell? ⟨r, 2, none⟩ = some (.int .i64 et)) 4 (((mark [0, 1, 2, 3, 5] (Array.replicate 11 false)).setIfInBounds 4 true).setIfInBounds 6 true) a9 w1) := by
    intro a1 hsz hdf e18 e22 e24
    refine wpAnyH_run ⟨some 25, Op.call { callee := Callee.builtin Builtin.append, args := #[Operand.tmp 22, Operand.tmp 24], argTypes := #[59, 59] }, 59, "", #[], none⟩ _ _ w2 HR.out.r7 HR.out.o7 rfl rfl (pu_7 _ _ _ _ _ _ e22 e24 hap) (HS.out _ kw2) ?_
    replace hHeld := HS.out _ kw2
    obtain ⟨s1, f1, n1, k1⟩ := act_put a1 25 (.slice (some ⟨g', 0, none⟩) (n + 1) cap') (show 25 < _ by rw [hsz]; decide)
    obtain ⟨a9, ha1⟩ : ∃ x, x = Act.put a1 (some 25) (.slice (some ⟨g', 0, none⟩) (n + 1) cap') := ⟨_, rfl⟩
    rw [← ha1] at s1 f1 n1 k1 ⊢
    clear ha1
    replace hsz := s1.trans hsz
    replace hdf := f1.trans hdf
    replace e18 := (k1 18 (by decide)).trans e18
    have e25 := n1
    clear s1 f1 n1 k1
    refine wpAnyH_tk HR.out.sel hQ hHeld [8, 9] [⟨some 26, Op.nilCheck (Operand.tmp 18), 0, "", #[], none⟩, ⟨some 27, Op.fieldAddr 61 (Operand.tmp 26) 0, 0, "", #[], none⟩] 1 _ _ HR.out.h8 (by kernel_rfl) HR.out.m8 (fun Kt hKt => ?_)
    refine wpTk_step 26 (.pointer (some ⟨h, 0, none⟩)) rfl (by rw [hsz]; decide) (fun z _ => pu_8 h _ z e18) ?_
    intro a1 s1 f1 n1 k1
    replace hsz := s1.trans hsz
    replace hdf := f1.trans hdf
    replace e25 := (k1 25 (by decide)).trans e25
    have e26 := n1
    clear s1 f1 n1 k1
    refine wpTk_step 27 (.pointer (some ⟨h, 0, none⟩)) rfl (by rw [hsz]; decide) (fun z _ => pu_9 h _ z e26) ?_
    intro a1 s1 f1 n1 k1
    replace hsz := s1.trans hsz
    replace hdf := f1.trans hdf
    replace e25 := (k1 25 (by decide)).trans e25
    have e27 := n1
    clear s1 f1 n1 k1
    refine wpTk_nil (hKt.out _ ?_)
    clear hKt Kt
    refine wpAnyH_skip ⟨none, Op.store 59 (Operand.tmp 27) (Operand.tmp 25), 0, "", #[], none⟩ _ HR.out.r10 HR.out.o10 rfl rfl (pu_10 h g' (n + 1) cap' v _ _ e27 e25 c2 f2) (HS.out _ kz) ?_
    exact wpAnyH_done HR.out.fin (HKF.out _ hdf) _
  refine wpAnyH_two ⟨some 22, Op.load 59 (Operand.tmp 21), 59, "", #[], none⟩ ⟨some 24, Op.buildSlice 59 1 #[(0, Operand.tmp 23)], 59, "", #[], none⟩ HR.out.r46 HR.out.o4 HR.out.o6 rfl rfl (fun Ka hKa => ?_) (fun Ka hKa => ?_)
  · refine wp_value (pu_4 h v _ wd e21 (HC4.out _ kd0)) (hKa.out _ _ (HS.out _ kdm) ?_)
    clear hKa Ka
    show wpAnyH _ _ _ _ _ _ _ (Act.put a1 (some 22) v) _
    obtain ⟨s1, f1, n1, k1⟩ := act_put a1 22 (v) (show 22 < _ by rw [hsz]; decide)
    obtain ⟨a9, ha1⟩ : ∃ x, x = Act.put a1 (some 22) (v) := ⟨_, rfl⟩
    rw [← ha1] at s1 f1 n1 k1 ⊢
    clear ha1
    replace hsz := s1.trans hsz
    replace hdf := f1.trans hdf
    replace e18 := (k1 18 (by decide)).trans e18
    replace e21 := (k1 21 (by decide)).trans e21
    replace e23 := (k1 23 (by decide)).trans e23
    have e22 := n1
    clear s1 f1 n1 k1
    refine wpAnyH_run ⟨some 24, Op.buildSlice 59 1 #[(0, Operand.tmp 23)], 59, "", #[], none⟩ _ _ w1 HR.out.r6 HR.out.o6 rfl rfl (hp6 _ e23) (HS.out _ k1m) ?_
    obtain ⟨s1, f1, n1, k1⟩ := act_put a9 24 (.slice (some ⟨q, 0, none⟩) 1 1) (show 24 < _ by rw [hsz]; decide)
    obtain ⟨a9, ha1⟩ : ∃ x, x = Act.put a9 (some 24) (.slice (some ⟨q, 0, none⟩) 1 1) := ⟨_, rfl⟩
    rw [← ha1] at s1 f1 n1 k1 ⊢
    clear ha1
    replace hsz := s1.trans hsz
    replace hdf := f1.trans hdf
    replace e18 := (k1 18 (by decide)).trans e18
    replace e22 := (k1 22 (by decide)).trans e22
    have e24 := n1
    clear s1 f1 n1 k1
    exact HREST.out _ hsz hdf e18 e22 e24
  · refine wp_value (hp6 _ e23) (hKa.out _ _ (HS.out _ k1m) ?_)
    clear hKa Ka
    show wpAnyH _ _ _ _ _ _ _ (Act.put a1 (some 24) (.slice (some ⟨q, 0, none⟩) 1 1)) _
    obtain ⟨s1, f1, n1, k1⟩ := act_put a1 24 (.slice (some ⟨q, 0, none⟩) 1 1) (show 24 < _ by rw [hsz]; decide)
    obtain ⟨a9, ha1⟩ : ∃ x, x = Act.put a1 (some 24) (.slice (some ⟨q, 0, none⟩) 1 1) := ⟨_, rfl⟩
    rw [← ha1] at s1 f1 n1 k1 ⊢
    clear ha1
    replace hsz := s1.trans hsz
    replace hdf := f1.trans hdf
    replace e18 := (k1 18 (by decide)).trans e18
    replace e21 := (k1 21 (by decide)).trans e21
    replace e23 := (k1 23 (by decide)).trans e23
    have e24 := n1
    clear s1 f1 n1 k1
    refine wpAnyH_run ⟨some 22, Op.load 59 (Operand.tmp 21), 59, "", #[], none⟩ _ _ w1 HR.out.r4 HR.out.o4 rfl rfl (pu_4 h v _ w1 e21 (HC4.out _ k1)) (HS.out _ k1m) ?_
    obtain ⟨s1, f1, n1, k1⟩ := act_put a9 22 (v) (show 22 < _ by rw [hsz]; decide)
    obtain ⟨a9, ha1⟩ : ∃ x, x = Act.put a9 (some 22) (v) := ⟨_, rfl⟩
    rw [← ha1] at s1 f1 n1 k1 ⊢
    clear ha1
    replace hsz := s1.trans hsz
    replace hdf := f1.trans hdf
    replace e18 := (k1 18 (by decide)).trans e18
    replace e24 := (k1 24 (by decide)).trans e24
    have e22 := n1
    clear s1 f1 n1 k1
    rw [Array.setIfInBounds_comm _ _ (by decide : (6 : Nat) ≠ 4)]
    exact HREST.out _ hsz hdf e18 e22 e24
end Go.Proofs.Ytnpaoppfhffoiaa
