/- A heap of numbers: Push of its own (laid by scripts/mkad.py). -/
import Derived.Test.YtippipeebkkghaaGreatDoorAc
import Derived.Lib.SmallJoins
namespace Go.Proofs.YtippipeebkkghaaGreatDoor
set_option linter.unusedVariables false
open Go.RowKit Go.Deep

theorem wp_appI {t tx : TypeId} {o : Oper} {a : Act} {w : World} {K : Act → World → Prop} {Q : Exit → Act → World → Prop} (s y : Operand)
    (ho : o.op = .call { callee := .builtin .append, args := #[s, y], argTypes := #[t, tx] })
    (base : Nat) (e : TypeId) (i : TypeInfo) (z : Value) (size bytes : Nat) (ht : Tryz.prog.underlying t = some (.slice e)) (hi : Tryz.prog.info? e = some i) (hz : i.zero = some z)
    (hsize : i.size = size) (hby : i.bytes = bytes) (hzs : z.cells.size = size) (hsz : 0 < size)
    (v : Value) (n : Nat) (xs : List Value) (hs : a.eval s = v) (hown : w.ownsRow base e size v n xs)
    (x : Value) (m : Nat) (news : List Value) (hx : a.eval y = x) (hsrc : Src Tryz.prog size tx x m news w)
    (h63 : n + m ≤ maxLen) (hbytes : (n + m) * bytes ≤ 140737488355328) (hbase : base ≤ w.heap.size)
    (h : ∀ v' w', w'.ownsRow base e size v' (n + m) (xs ++ news) → w.grownBy w' v.ownBlock → (v'.ownBlock = v.ownBlock ∨ v'.ownBlock = some w.heap.size) → K (a.put o.dst v') w') : o.wp Tryz.prog a w K Q := by
  obtain ⟨v', w', hr, h2, h3, h4⟩ := run_append_own_src (P := Tryz.prog) w base t tx o.type e i z size bytes ht hi hz hsize hby hzs hsz v n xs hown x m news hsrc h63 hbytes hbase
  unfold Oper.wp execOp
  simp only [ho, resolve, invoke, builtin, Sem.run_bind, Sem.run_pure, Result.andThen_ok, List.map_toArray, List.map_cons, List.map_nil, hs, hx, hr]
  exact h v' w' h2 h3 h4
theorem infoI0 : (Tryz.prog.info? 3).map (fun i => (i.zero.map (·.cells.size), i.size, i.bytes)) = some (some 1, 1, 8) := by kernel_rfl
theorem infoI : ∃ i z, Tryz.prog.info? 3 = some i ∧ i.zero = some z ∧ i.size = 1 ∧ i.bytes = 8 ∧ z.cells.size = 1 := by
  obtain ⟨i, hi, he⟩ := Option.map_eq_some_iff.1 infoI0
  simp only [Prod.mk.injEq] at he
  obtain ⟨h1, h2, h3⟩ := he
  obtain ⟨z, hz, h4⟩ := Option.map_eq_some_iff.1 h1
  exact ⟨i, z, hi, hz, h2, h3, h4⟩
theorem tasI (v : Value) (w : World) : (Instr.typeAssert (.iface 3 v) 20 3 false).run Tryz.prog w = .ok v w := by kernel_rfl
theorem uIs : Tryz.prog.underlying 135 = some (.slice 3) := Tryz.underlying135

set_option maxRecDepth 100000 in
set_option maxHeartbeats 1600000 in
theorem ipushm {w : World} {h o g cap : Nat} {pre post : List Value} {l : List Nat} (x : Ip w h o g cap pre post l) (k : Nat) (hl : l.length ≤ 10000) :
    Calls Tryz.prog 263 #[.pointer (some ⟨h, o, none⟩), .iface 3 (.int .i64 (k : Int))] w fun e w' => e = .returned (.tuple #[]) ∧ Kp (fun b => b = h ∨ b = g) w w' ∧ ∃ g' cap', (g' = g ∨ w.heap.size ≤ g') ∧ Ip w' h o g' cap' pre post (l ++ [k]) := by
  have HX : Hid (Ip w h o g cap pre post l) := x
  obtain ⟨n, hn⟩ : ∃ n, n = l.length := ⟨_, rfl⟩
  obtain ⟨a, ha⟩ : ∃ a : Int, a = (k : Int) := ⟨_, rfl⟩
  have HN : Hid (n = l.length ∧ a = (k : Int) ∧ n ≤ 10000) := ⟨hn, ha, by omega⟩
  rw [← ha]
  have HSS : Hid (∀ u, Kp (fun _ => False) w u → u.cell? ⟨h, o, none⟩ = some (.slice (some ⟨g, 0, none⟩) n cap)) := fun u ku => by rw [hn]; exact (x.keep0 ku).c0
  clear x hl hn ha
  obtain ⟨ti, tz, hi1, hi2, hi3, hi4, hi5⟩ := infoI
  have hta := tasI
  go_enter Tryz.func263, Tryz.ntmps263
  go_wp2
  have kd0 : Kp (fun _ => False) w w.drew := (Kp.refl _ _).drew
  obtain ⟨wd, hwd⟩ : ∃ y, y = w.drew := ⟨_, rfl⟩
  refine wp_region_held_drew (S := (fun _ : World => True)) (by kernel_rfl) trivial (fun hHeld => ?_)
  rw [← hwd] at kd0 ⊢
  clear hwd
  simp only [List.size_toArray, List.length_cons, List.length_nil, Nat.zero_add, Nat.reduceAdd]
  refine wpAnyH_take (i := 0) (v := ?zv0) (List.getElem?_toArray.trans rfl) (by kernel_rfl) (by kernel_rfl) (by kernel_rfl) (fun _ _ _ h => h) (Or.inl ⟨by rfl, ?zy0⟩) (by assumption) ?zr0
  case zy0 => (intro w hSw; go_simp; try with_reducible rfl)
  simp only [Act.put, List.setIfInBounds_toArray, List.set_cons_zero, List.set_cons_succ]
  refine wpAnyH_take (i := 1) (v := ?zv1) (List.getElem?_toArray.trans rfl) (by kernel_rfl) (by kernel_rfl) (by kernel_rfl) (fun _ _ _ h => h) (Or.inl ⟨by rfl, ?zy1⟩) (by assumption) ?zr1
  case zy1 => (intro w hSw; go_simp; try with_reducible rfl)
  simp only [Act.put, List.setIfInBounds_toArray, List.set_cons_zero, List.set_cons_succ]
  refine wpAnyH_take (i := 2) (v := ?zv2) (List.getElem?_toArray.trans rfl) (by kernel_rfl) (by kernel_rfl) (by kernel_rfl) (fun _ _ _ h => h) (Or.inl ⟨by rfl, ?zy2⟩) (by assumption) ?zr2
  case zy2 => (intro w hSw; go_simp; try with_reducible rfl)
  simp only [Act.put, List.setIfInBounds_toArray, List.set_cons_zero, List.set_cons_succ]
  refine wpAnyH_take (i := 4) (v := ?zv4) (List.getElem?_toArray.trans rfl) (by kernel_rfl) (by kernel_rfl) (by kernel_rfl) (fun _ _ _ h => h) (Or.inl ⟨by rfl, ?zy4⟩) (by assumption) ?zr4
  case zy4 => (intro w hSw; go_simp; try with_reducible rfl)
  simp only [Act.put, List.setIfInBounds_toArray, List.set_cons_zero, List.set_cons_succ]
  refine wpAnyH_take (i := 5) (v := ?zv5) (List.getElem?_toArray.trans rfl) (by kernel_rfl) (by kernel_rfl) (by kernel_rfl) (fun _ _ _ h => h) (Or.inl ⟨by rfl, ?zy5⟩) (by assumption) ?zr5
  case zy5 => (intro w hSw; go_simp; try with_reducible rfl)
  simp only [Act.put, List.setIfInBounds_toArray, List.set_cons_zero, List.set_cons_succ]
  refine wpAnyH_ready (rs := [3, 6]) (by kernel_rfl) (by simp) ?_
  refine AllReadyH.cons rfl (fun Ka hKa => ?_) (AllReadyH.cons rfl (fun Ka hKa => ?_) AllReadyH.nil)
  · rw [if_pos (by rfl)]
    have c0 := HSS.out _ kd0
    go_simp
    clear c0 hHeld
    try dsimp only
    refine hKa.out _ _ trivial (fun hHeld => ?_)
    clear hKa Ka
    refine wpAnyH_ready (rs := [6]) (by kernel_rfl) (by simp) ?_
    refine AllReadyH.cons rfl (fun Ka hKa => ?_) AllReadyH.nil
    rw [if_pos (by rfl)]
    go_simp
    have k1 : Kp (fun _ => False) w (wd.alloc (.cells #[.int .i64 a] 3)) := kd0.alloc _
    have HL1 : Hid (Lv (wd.alloc (.cells #[.int .i64 a] 3)) wd.heap.size [.int .i64 a]) := Lv.new wd _ _
    obtain ⟨r, hr⟩ : ∃ r, r = wd.heap.size := ⟨_, rfl⟩
    obtain ⟨w1, hw1⟩ : ∃ y, y = wd.alloc (.cells #[.int .i64 a] 3) := ⟨_, rfl⟩
    rw [← hw1] at k1 HL1 ⊢
    rw [← hr] at HL1 ⊢
    clear hHeld hr hw1
    try dsimp only
    refine hKa.out _ _ trivial (fun hHeld => ?_)
    clear hKa Ka
    refine wpAnyH_ready (rs := [7]) (by kernel_rfl) (by simp) ?_
    refine AllReadyH.cons rfl (fun Ka hKa => ?_) AllReadyH.nil
    rw [if_pos (by rfl)]
    have HX1 : Hid (Ip w1 h o g cap pre post l) := HX.out.keep0 k1
    refine wp_appI _ _ rfl 0 3 ti tz 1 8 uIs hi1 hi2 hi3 hi4 hi5 (by decide) (.slice (some ⟨g, 0, none⟩) n cap) n (nls l) rfl (by rw [HN.out.1]; exact HX1.out.ow) (.slice (some ⟨r, 0, none⟩) 1 1) 1 [.int .i64 a] rfl (Src.ofSlice _ uIs ⟨r, 0, none⟩ 1 1 [.int .i64 a] rfl (fun j u hj => by rw [Addr.add_mid, Nat.zero_add]; exact HL1.out.cell hj) (fun u hu => by simp only [List.mem_cons, List.not_mem_nil, or_false] at hu; rw [hu]; rfl)) (by have := HN.out; unfold maxLen; omega) (by have := HN.out; omega) (Nat.zero_le _) ?_
    intro v' w2 hown hk hblk
    simp only [List.getElem_toArray, List.getElem_cons_succ, List.getElem_cons_zero, Act.put]
    have k2 := grownBy_kp hk
    have hv' : ∃ g' cap', v' = .slice (some ⟨g', 0, none⟩) (n + 1) cap' := by
      rcases Joins.ownsRow_forms hown with ⟨e1, e2⟩ | ⟨g', cap', e⟩
      · omega
      · exact ⟨g', cap', e⟩
    obtain ⟨g', cap', rfl⟩ := hv'
    have hgb := HX1.out.gb
    have hhl := HX1.out.hb
    have hgn : g' ≠ h ∧ (g' = g ∨ w.heap.size ≤ g') := by
      rcases hblk with e | e
      · have e' : some g' = some g := e
        injection e' with e'
        exact ⟨by rw [e']; exact HX1.out.ne, Or.inl e'⟩
      · have e' : some g' = some w1.heap.size := e
        injection e' with e'
        have := k1.size
        exact ⟨by omega, Or.inr (by omega)⟩
    have hl2 : Lv w2 h (pre ++ .slice (some ⟨g, 0, none⟩) n cap :: post) := by
      have h4 := HX1.out.lv.keep k2 (fun e => by have e' : some g = some h := e; injection e' with e'; exact HX1.out.ne e')
      rw [HN.out.1]; exact h4
    have hol := HX1.out.ol
    have c2 : w2.cell? ⟨h, o, none⟩ = some (.slice (some ⟨g, 0, none⟩) n cap) := hl2.cell (j := o) (by rw [← hol]; exact mid_get _ _ _)
    have f2 : w2.frozen? ⟨h, o, none⟩ = false := hl2.fz (by rw [← hol]; simp)
    have K2 : Hid (Kp (fun b => b = h ∨ b = g) w w2) := (k1.mono (fun _ _ e => e.elim)).trans k2 (fun b hb e => by have e' : some g = some b := e; injection e' with e'; exact Or.inr e'.symm)
    have HO2 : Hid (w2.ownsRow 0 3 1 (.slice (some ⟨g', 0, none⟩) (n + 1) cap') (n + 1) (nls (l ++ [k]))) := by
      show w2.ownsRow _ _ _ _ _ _
      rw [nls_append]
      show w2.ownsRow _ _ _ _ _ (nls l ++ [.int .i64 (k : Int)])
      rw [← HN.out.2.1]
      exact hown
    have HB : Hid (pre.length = o ∧ g' ≠ h ∧ (g' = g ∨ w.heap.size ≤ g')) := ⟨hol, hgn.1, hgn.2⟩
    have HL2 : Hid (Lv w2 h (pre ++ .slice (some ⟨g, 0, none⟩) n cap :: post)) := hl2
    clear hHeld k2 hk hblk hown hgb hhl hgn hl2 hol
    refine hKa.out _ _ trivial (fun hHeld => ?_)
    clear hKa Ka
    refine wpAnyH_take (i := 8) (v := ?zv8a) (List.getElem?_toArray.trans rfl) (by kernel_rfl) (by kernel_rfl) (by kernel_rfl) (fun _ _ _ h => h) (Or.inl ⟨by rfl, ?zy8a⟩) (by assumption) ?zr8a
    case zy8a => (intro w hSw; go_simp; try with_reducible rfl)
    simp only [Act.put, List.setIfInBounds_toArray, List.set_cons_zero, List.set_cons_succ]
    refine wpAnyH_ready (rs := [9]) (by kernel_rfl) (by simp) ?_
    refine AllReadyH.cons rfl (fun Ka hKa => ?_) AllReadyH.nil
    rw [if_pos (by rfl)]
    go_simp
    have ks : Kp (fun b => b = h) w2 (w2.setCell ⟨h, o, none⟩ (.slice (some ⟨g', 0, none⟩) (n + 1) cap')) := (Kp.refl (fun b => b = h) w2).setCell (fun _ => rfl) _
    have hl3 := HL2.out.set1 o (.slice (some ⟨g', 0, none⟩) (n + 1) cap') (by rw [← HB.out.1]; simp)
    rw [← HB.out.1, mid_set, HB.out.1] at hl3
    have hlen : (l ++ [k]).length = n + 1 := by rw [List.length_append, HN.out.1]; rfl
    have HF : Hid (Kp (fun b => b = h ∨ b = g) w (w2.setCell ⟨h, o, none⟩ (.slice (some ⟨g', 0, none⟩) (n + 1) cap')) ∧ Ip (w2.setCell ⟨h, o, none⟩ (.slice (some ⟨g', 0, none⟩) (n + 1) cap')) h o g' cap' pre post (l ++ [k])) := ⟨K2.out.trans ks (fun b hb e => Or.inl e), ⟨by rw [hlen]; exact hl3, HB.out.1, by rw [hlen]; exact ownsRow_keep HO2.out ks (fun g0 e e2 => by have e' : some g' = some g0 := e; injection e' with e'; have := HB.out.2.1; omega), HB.out.2.1⟩⟩
    clear hHeld ks hl3 hlen
    try dsimp only
    refine hKa.out _ _ trivial (fun hHeld => ?_)
    clear hKa Ka
    refine wpAnyH_done (by kernel_rfl) ?_ _
    go_wp2
    go_end0
    exact ⟨rfl, HF.out.1, g', cap', HB.out.2.2, HF.out.2⟩
  · rw [if_pos (by rfl)]
    go_simp
    have k1 : Kp (fun _ => False) w (wd.alloc (.cells #[.int .i64 a] 3)) := kd0.alloc _
    have HL1 : Hid (Lv (wd.alloc (.cells #[.int .i64 a] 3)) wd.heap.size [.int .i64 a]) := Lv.new wd _ _
    obtain ⟨r, hr⟩ : ∃ r, r = wd.heap.size := ⟨_, rfl⟩
    obtain ⟨w1, hw1⟩ : ∃ y, y = wd.alloc (.cells #[.int .i64 a] 3) := ⟨_, rfl⟩
    rw [← hw1] at k1 HL1 ⊢
    rw [← hr] at HL1 ⊢
    clear hHeld hr hw1
    try dsimp only
    refine hKa.out _ _ trivial (fun hHeld => ?_)
    clear hKa Ka
    refine wpAnyH_ready (rs := [3]) (by kernel_rfl) (by simp) ?_
    refine AllReadyH.cons rfl (fun Ka hKa => ?_) AllReadyH.nil
    rw [if_pos (by rfl)]
    have c0 := HSS.out _ k1
    go_simp
    clear c0 hHeld
    try dsimp only
    refine hKa.out _ _ trivial (fun hHeld => ?_)
    clear hKa Ka
    refine wpAnyH_ready (rs := [7]) (by kernel_rfl) (by simp) ?_
    refine AllReadyH.cons rfl (fun Ka hKa => ?_) AllReadyH.nil
    rw [if_pos (by rfl)]
    have HX1 : Hid (Ip w1 h o g cap pre post l) := HX.out.keep0 k1
    refine wp_appI _ _ rfl 0 3 ti tz 1 8 uIs hi1 hi2 hi3 hi4 hi5 (by decide) (.slice (some ⟨g, 0, none⟩) n cap) n (nls l) rfl (by rw [HN.out.1]; exact HX1.out.ow) (.slice (some ⟨r, 0, none⟩) 1 1) 1 [.int .i64 a] rfl (Src.ofSlice _ uIs ⟨r, 0, none⟩ 1 1 [.int .i64 a] rfl (fun j u hj => by rw [Addr.add_mid, Nat.zero_add]; exact HL1.out.cell hj) (fun u hu => by simp only [List.mem_cons, List.not_mem_nil, or_false] at hu; rw [hu]; rfl)) (by have := HN.out; unfold maxLen; omega) (by have := HN.out; omega) (Nat.zero_le _) ?_
    intro v' w2 hown hk hblk
    simp only [List.getElem_toArray, List.getElem_cons_succ, List.getElem_cons_zero, Act.put]
    have k2 := grownBy_kp hk
    have hv' : ∃ g' cap', v' = .slice (some ⟨g', 0, none⟩) (n + 1) cap' := by
      rcases Joins.ownsRow_forms hown with ⟨e1, e2⟩ | ⟨g', cap', e⟩
      · omega
      · exact ⟨g', cap', e⟩
    obtain ⟨g', cap', rfl⟩ := hv'
    have hgb := HX1.out.gb
    have hhl := HX1.out.hb
    have hgn : g' ≠ h ∧ (g' = g ∨ w.heap.size ≤ g') := by
      rcases hblk with e | e
      · have e' : some g' = some g := e
        injection e' with e'
        exact ⟨by rw [e']; exact HX1.out.ne, Or.inl e'⟩
      · have e' : some g' = some w1.heap.size := e
        injection e' with e'
        have := k1.size
        exact ⟨by omega, Or.inr (by omega)⟩
    have hl2 : Lv w2 h (pre ++ .slice (some ⟨g, 0, none⟩) n cap :: post) := by
      have h4 := HX1.out.lv.keep k2 (fun e => by have e' : some g = some h := e; injection e' with e'; exact HX1.out.ne e')
      rw [HN.out.1]; exact h4
    have hol := HX1.out.ol
    have c2 : w2.cell? ⟨h, o, none⟩ = some (.slice (some ⟨g, 0, none⟩) n cap) := hl2.cell (j := o) (by rw [← hol]; exact mid_get _ _ _)
    have f2 : w2.frozen? ⟨h, o, none⟩ = false := hl2.fz (by rw [← hol]; simp)
    have K2 : Hid (Kp (fun b => b = h ∨ b = g) w w2) := (k1.mono (fun _ _ e => e.elim)).trans k2 (fun b hb e => by have e' : some g = some b := e; injection e' with e'; exact Or.inr e'.symm)
    have HO2 : Hid (w2.ownsRow 0 3 1 (.slice (some ⟨g', 0, none⟩) (n + 1) cap') (n + 1) (nls (l ++ [k]))) := by
      show w2.ownsRow _ _ _ _ _ _
      rw [nls_append]
      show w2.ownsRow _ _ _ _ _ (nls l ++ [.int .i64 (k : Int)])
      rw [← HN.out.2.1]
      exact hown
    have HB : Hid (pre.length = o ∧ g' ≠ h ∧ (g' = g ∨ w.heap.size ≤ g')) := ⟨hol, hgn.1, hgn.2⟩
    have HL2 : Hid (Lv w2 h (pre ++ .slice (some ⟨g, 0, none⟩) n cap :: post)) := hl2
    clear hHeld k2 hk hblk hown hgb hhl hgn hl2 hol
    refine hKa.out _ _ trivial (fun hHeld => ?_)
    clear hKa Ka
    refine wpAnyH_take (i := 8) (v := ?zv8b) (List.getElem?_toArray.trans rfl) (by kernel_rfl) (by kernel_rfl) (by kernel_rfl) (fun _ _ _ h => h) (Or.inl ⟨by rfl, ?zy8b⟩) (by assumption) ?zr8b
    case zy8b => (intro w hSw; go_simp; try with_reducible rfl)
    simp only [Act.put, List.setIfInBounds_toArray, List.set_cons_zero, List.set_cons_succ]
    refine wpAnyH_ready (rs := [9]) (by kernel_rfl) (by simp) ?_
    refine AllReadyH.cons rfl (fun Ka hKa => ?_) AllReadyH.nil
    rw [if_pos (by rfl)]
    go_simp
    have ks : Kp (fun b => b = h) w2 (w2.setCell ⟨h, o, none⟩ (.slice (some ⟨g', 0, none⟩) (n + 1) cap')) := (Kp.refl (fun b => b = h) w2).setCell (fun _ => rfl) _
    have hl3 := HL2.out.set1 o (.slice (some ⟨g', 0, none⟩) (n + 1) cap') (by rw [← HB.out.1]; simp)
    rw [← HB.out.1, mid_set, HB.out.1] at hl3
    have hlen : (l ++ [k]).length = n + 1 := by rw [List.length_append, HN.out.1]; rfl
    have HF : Hid (Kp (fun b => b = h ∨ b = g) w (w2.setCell ⟨h, o, none⟩ (.slice (some ⟨g', 0, none⟩) (n + 1) cap')) ∧ Ip (w2.setCell ⟨h, o, none⟩ (.slice (some ⟨g', 0, none⟩) (n + 1) cap')) h o g' cap' pre post (l ++ [k])) := ⟨K2.out.trans ks (fun b hb e => Or.inl e), ⟨by rw [hlen]; exact hl3, HB.out.1, by rw [hlen]; exact ownsRow_keep HO2.out ks (fun g0 e e2 => by have e' : some g' = some g0 := e; injection e' with e'; have := HB.out.2.1; omega), HB.out.2.1⟩⟩
    clear hHeld ks hl3 hlen
    try dsimp only
    refine hKa.out _ _ trivial (fun hHeld => ?_)
    clear hKa Ka
    refine wpAnyH_done (by kernel_rfl) ?_ _
    go_wp2
    go_end0
    exact ⟨rfl, HF.out.1, g', cap', HB.out.2.2, HF.out.2⟩

end Go.Proofs.YtippipeebkkghaaGreatDoor
