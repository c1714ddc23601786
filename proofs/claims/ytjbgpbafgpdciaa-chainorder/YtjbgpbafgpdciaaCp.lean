/- A chain's next slot: pass. -/
import Derived.Test.YtjbgpbafgpdciaaCa
namespace Go.Proofs.Ytjbgpbafgpdciaa
set_option linter.unusedVariables false
open Go.RowKit Go.Deep Go.Maps

theorem wp_store_all {op : Oper} {a : Act} {w : World} {K : Act → World → Prop} {Q : Exit → Act → World → Prop} (ty : TypeId) (x y : Operand) (ho : op.op = .store ty x y)
    (n g : Nat) (cs : List Value) (cells : List Value) (hx : a.eval x = .pointer (some ⟨g, 0, none⟩)) (hy : a.eval y = .agg cells.toArray) (hL : Lv w g cs)
    (hi : (Try.prog.info? ty).map (·.size) = some n) (hn : cs.length = n) (hl : cells.length = n) (h1 : cells.toArray.all (·.oneCell') = true)
    (h : ∀ w', Lv w' g cells → Kp (fun b => b = g) w w' → K (a.put op.dst undef) w') : op.wp Try.prog a w K Q := by
  have ht : w.there g 0 cells.toArray.size := fun j hj => by have := hL.t j (by rw [List.size_toArray] at hj; omega); simpa using this
  refine wp_store_mid ty x y ho g 0 cells.toArray hx hy ht (by rw [hi, List.size_toArray, hl]) h1 (h _ ?_ (kp_setCells g _ _ _))
  have := hL.set 0 cells (by omega)
  have e : cs.take 0 ++ cells ++ cs.drop (0 + cells.length) = cells := by
    rw [Nat.zero_add, hl, ← hn]; simp
  rw [e] at this
  exact this
theorem cc_one (x : Cv) {w : World} {Z : Nat → Prop} (h : Ni w Z x.2.1 x.2.2) : (ccell x).toList.toArray.all (·.oneCell') = true := cmd_one x.1 (by obtain ⟨p, cap, e, _⟩ := h; rw [e]; rfl)
theorem Ch.get {w : World} {Z : Nat → Prop} {t m q c : Nat} {nxt : Int} {C : Int → Option Cv} (ni : ∀ z x, C z = some x → Ni w Z x.2.1 x.2.2) (z : Int) : Ni w Z ((C z).getD (cs00, [], nil0)).2.1 ((C z).getD (cs00, [], nil0)).2.2 := by
  cases hz : C z with
  | none => exact ⟨none, 0, rfl, fun j u hu => (by cases hu), by simp⟩
  | some x => exact ni z x hz

set_option maxRecDepth 100000 in
set_option maxHeartbeats 1600000 in
theorem cpass_ok {w : World} {Z : Nat → Prop} {t m q c : Nat} {nxt : Int} {C : Int → Option Cv} (hlv : Lv w t [.map (some m), .int .i64 nxt]) (hmm : Mm w m q c (cmap C)) (hne : t ≠ m) (hni : ∀ z x, C z = some x → Ni w Z x.2.1 x.2.2) (hap : ∀ b, Z b → b ≠ t ∧ b ≠ m)
    (h1 : 1 ≤ nxt ∧ nxt ≤ 1152921504606846977) (hs : ∀ z, 1 ≤ z → z < nxt → (C z).isSome = true) (hdm : ∀ z x, C z = some x → 1 ≤ z ∧ z ≤ 1152921504606846976) :
    Calls Try.prog 24 #[.pointer (some ⟨t, 0, none⟩)] w fun e w' => e = .returned (.tuple #[]) ∧ Kp (fun b => b = t) w w' ∧ ∃ n, Lv w' t [.map (some m), .int .i64 n] ∧ Fst C n := by
  obtain ⟨L, hL⟩ : ∃ L : Nat, L = (1152921504606846978 - nxt).toNat := ⟨_, rfl⟩
  have HM : Hid (Mm w m q c (cmap C) ∧ t ≠ m ∧ (∀ z x, C z = some x → Ni w Z x.2.1 x.2.2) ∧ (∀ b, Z b → b ≠ t ∧ b ≠ m) ∧ (∀ z x, C z = some x → 1 ≤ z ∧ z ≤ 1152921504606846976)) := ⟨hmm, hne, hni, hap, hdm⟩
  have HLv : Hid (Lv w t [.map (some m), .int .i64 nxt]) := hlv
  have HS : Hid (∀ z, 1 ≤ z → z < nxt → (C z).isSome = true) := hs
  have HB : Hid (1 ≤ nxt ∧ nxt ≤ 1152921504606846977 ∧ L = (1152921504606846978 - nxt).toNat ∧ t < w.heap.size ∧ m < w.heap.size) := ⟨h1.1, h1.2, hL, hlv.lt (by simp), hmm.lt⟩
  clear hlv hmm hne hni hap h1 hs hdm hL
  go_enter Try.func24, Try.ntmps24
  go_wp2
  go_loopg [] L (fun gk wr => ∃ n : Int, nxt ≤ n ∧ n ≤ 1152921504606846977 ∧ gk = (1152921504606846978 - n).toNat ∧ Kp (fun b => b = t) w wr ∧ Lv wr t [.map (some m), .int .i64 n] ∧ ∀ z, 1 ≤ z → z < n → (C z).isSome = true)
  case atStart => exact ⟨nxt, Int.le_refl _, HB.out.2.1, HB.out.2.2.1, Kp.refl _ _, HLv.out, HS.out⟩
  case round =>
    obtain ⟨n, hn1, hn2, rfl, kr, hl, hsn⟩ := hrel
    have c0 : wr.cell? ⟨t, 0, none⟩ = some (.map (some m)) := hl.cell (j := 0) rfl
    have c1 : wr.cell? ⟨t, 1, none⟩ = some (.int .i64 n) := hl.cell (j := 1) rfl
    have hmr : Mm wr m q c (cmap C) := HM.out.1.keep kr (fun e => HM.out.2.1 e.symm)
    have hlk := look_mm_ok uCmd zCmd hmr n (z_wf (by have := HB.out; omega))
    rw [cget, csome] at hlk
    obtain ⟨y, hy⟩ : ∃ y, y = (C n).getD (cs00, [], nil0) := ⟨_, rfl⟩
    obtain ⟨ok, hok⟩ : ∃ ok, ok = (C n).isSome := ⟨_, rfl⟩
    rw [← hy, ← hok] at hlk
    have HSS : Hid (∀ x, Kp (fun _ => False) wr x → x.cell? ⟨t, 0, none⟩ = some (.map (some m)) ∧ x.cell? ⟨t, 1, none⟩ = some (.int .i64 n) ∧ (Instr.lookup 53 (.map (some m)) (.int .i64 n) true).run Try.prog x = .ok (.tuple #[.agg (ccell y), .bool ok]) x) := fun x kx => by
      refine ⟨kx.cellv c0 id, kx.cellv c1 id, ?_⟩
      have := look_mm_ok uCmd zCmd (hmr.keep kx id) n (z_wf (by have := HB.out; omega))
      rw [cget, csome, ← hy, ← hok] at this
      exact this
    have HO2 : Hid ((ccell y).toList.toArray.all (·.oneCell') = true) := cc_one y (by rw [hy]; exact Ch.get (t := t) (m := m) (q := q) (c := c) (nxt := n) HM.out.2.2.1 n)
    obtain ⟨ya, hya⟩ : ∃ ya : Array Value, ya = ccell y := ⟨_, rfl⟩
    have HYA : Hid (ya = ccell y) := hya
    rw [← hya] at HSS HO2
    have HOK : Hid (ok = (C n).isSome) := hok
    have HSn : Hid (∀ z, 1 ≤ z → z < n → (C z).isSome = true) := hsn
    have HLn : Hid (Lv wr t [.map (some m), .int .i64 n]) := hl
    clear hlk c0 c1 hmr hya hok hsn hl hy
    go_wp2
    have kd0 : Kp (fun _ => False) wr wr.drew := (Kp.refl _ _).drew
    obtain ⟨wd, hwd⟩ : ∃ x, x = wr.drew := ⟨_, rfl⟩
    refine wp_region_held_drew (S := (fun x : World => x.cell? ⟨t, 0, none⟩ = some (.map (some m)) ∧ x.cell? ⟨t, 1, none⟩ = some (.int .i64 n) ∧ (Instr.lookup 53 (.map (some m)) (.int .i64 n) true).run Try.prog x = .ok (.tuple #[.agg ya, .bool ok]) x)) (by kernel_rfl) (HSS.out _ kd0) (fun hHeld => ?_)
    rw [← hwd] at kd0 hHeld ⊢
    clear hwd
    simp only [List.size_toArray, List.length_cons, List.length_nil, Nat.zero_add, Nat.reduceAdd]
    refine wpAnyH_take (i := 0) (v := ?zv0) (List.getElem?_toArray.trans rfl) (by kernel_rfl) (by kernel_rfl) (by kernel_rfl) (fun _ _ _ h => h) (Or.inl ⟨by rfl, ?zy0⟩) (by assumption) ?zr0
    case zy0 => (intro w hSw; obtain ⟨hs1, hs2, hs3⟩ := hSw; go_simp; try with_reducible rfl)
    simp only [Act.put, List.setIfInBounds_toArray, List.set_cons_zero, List.set_cons_succ]
    refine wpAnyH_take (i := 1) (v := ?zv1) (List.getElem?_toArray.trans rfl) (by kernel_rfl) (by kernel_rfl) (by kernel_rfl) (fun _ _ _ h => h) (Or.inl ⟨by rfl, ?zy1⟩) (by assumption) ?zr1
    case zy1 => (intro w hSw; obtain ⟨hs1, hs2, hs3⟩ := hSw; go_simp; try with_reducible rfl)
    simp only [Act.put, List.setIfInBounds_toArray, List.set_cons_zero, List.set_cons_succ]
    refine wpAnyH_take (i := 2) (v := ?zv2) (List.getElem?_toArray.trans rfl) (by kernel_rfl) (by kernel_rfl) (by kernel_rfl) (fun _ _ _ h => h) (Or.inl ⟨by rfl, ?zy2⟩) (by assumption) ?zr2
    case zy2 => (intro w hSw; obtain ⟨hs1, hs2, hs3⟩ := hSw; go_simp; try with_reducible rfl)
    simp only [Act.put, List.setIfInBounds_toArray, List.set_cons_zero, List.set_cons_succ]
    refine wpAnyH_take (i := 3) (v := ?zv3) (List.getElem?_toArray.trans rfl) (by kernel_rfl) (by kernel_rfl) (by kernel_rfl) (fun _ _ _ h => h) (Or.inl ⟨by rfl, ?zy3⟩) (by assumption) ?zr3
    case zy3 => (intro w hSw; obtain ⟨hs1, hs2, hs3⟩ := hSw; go_simp; try with_reducible rfl)
    simp only [Act.put, List.setIfInBounds_toArray, List.set_cons_zero, List.set_cons_succ]
    refine wpAnyH_take (i := 4) (v := ?zv4) (List.getElem?_toArray.trans rfl) (by kernel_rfl) (by kernel_rfl) (by kernel_rfl) (fun _ _ _ h => h) (Or.inl ⟨by rfl, ?zy4⟩) (by assumption) ?zr4
    case zy4 => (intro w hSw; obtain ⟨hs1, hs2, hs3⟩ := hSw; go_simp; try with_reducible rfl)
    simp only [Act.put, List.setIfInBounds_toArray, List.set_cons_zero, List.set_cons_succ]
    refine wpAnyH_take (i := 5) (v := ?zv5) (List.getElem?_toArray.trans rfl) (by kernel_rfl) (by kernel_rfl) (by kernel_rfl) (fun _ _ _ h => h) (Or.inl ⟨by rfl, ?zy5⟩) (by assumption) ?zr5
    case zy5 => (intro w hSw; obtain ⟨hs1, hs2, hs3⟩ := hSw; go_simp; try with_reducible rfl)
    simp only [Act.put, List.setIfInBounds_toArray, List.set_cons_zero, List.set_cons_succ]
    refine wpAnyH_take (i := 6) (v := ?zv6) (List.getElem?_toArray.trans rfl) (by kernel_rfl) (by kernel_rfl) (by kernel_rfl) (fun _ _ _ h => h) (Or.inl ⟨by rfl, ?zy6⟩) (by assumption) ?zr6
    case zy6 => (intro w hSw; obtain ⟨hs1, hs2, hs3⟩ := hSw; go_simp; try with_reducible rfl)
    simp only [Act.put, List.setIfInBounds_toArray, List.set_cons_zero, List.set_cons_succ]
    refine wpAnyH_take (i := 7) (v := ?zv7) (List.getElem?_toArray.trans rfl) (by kernel_rfl) (by kernel_rfl) (by kernel_rfl) (fun _ _ _ h => h) (Or.inl ⟨by rfl, ?zy7⟩) (by assumption) ?zr7
    case zy7 => (intro w hSw; obtain ⟨hs1, hs2, hs3⟩ := hSw; go_simp; try with_reducible rfl)
    simp only [Act.put, List.setIfInBounds_toArray, List.set_cons_zero, List.set_cons_succ]
    refine wpAnyH_take (i := 8) (v := ?zv8) (List.getElem?_toArray.trans rfl) (by kernel_rfl) (by kernel_rfl) (by kernel_rfl) (fun _ _ _ h => h) (Or.inl ⟨by rfl, ?zy8⟩) (by assumption) ?zr8
    case zy8 => (intro w hSw; obtain ⟨hs1, hs2, hs3⟩ := hSw; go_simp; try with_reducible rfl)
    simp only [Act.put, List.setIfInBounds_toArray, List.set_cons_zero, List.set_cons_succ]
    refine wpAnyH_take (i := 9) (v := ?zv9) (List.getElem?_toArray.trans rfl) (by kernel_rfl) (by kernel_rfl) (by kernel_rfl) (fun _ _ _ h => h) (Or.inl ⟨by rfl, ?zy9⟩) (by assumption) ?zr9
    case zy9 => (intro w hSw; obtain ⟨hs1, hs2, hs3⟩ := hSw; go_simp; try with_reducible rfl)
    simp only [Act.put, List.setIfInBounds_toArray, List.set_cons_zero, List.set_cons_succ]
    refine wpAnyH_take (i := 10) (v := ?zv10) (List.getElem?_toArray.trans rfl) (by kernel_rfl) (by kernel_rfl) (by kernel_rfl) (fun _ _ _ h => h) (Or.inl ⟨by rfl, ?zy10⟩) (by assumption) ?zr10
    case zy10 => (intro w hSw; obtain ⟨hs1, hs2, hs3⟩ := hSw; go_simp; try with_reducible rfl)
    simp only [Act.put, List.setIfInBounds_toArray, List.set_cons_zero, List.set_cons_succ]
    refine wpAnyH_take (i := 11) (v := ?zv11) (List.getElem?_toArray.trans rfl) (by kernel_rfl) (by kernel_rfl) (by kernel_rfl) (fun _ _ _ h => h) (Or.inl ⟨by rfl, ?zy11⟩) (by assumption) ?zr11
    case zy11 => (intro w hSw; obtain ⟨hs1, hs2, hs3⟩ := hSw; go_simp; try with_reducible rfl)
    simp only [Act.put, List.setIfInBounds_toArray, List.set_cons_zero, List.set_cons_succ]
    refine wpAnyH_ready (rs := [12]) (by kernel_rfl) (by simp) ?_
    refine AllReadyH.cons rfl (fun Ka hKa => ?_) AllReadyH.nil
    rw [if_pos (by rfl)]
    go_simp
    have k1 : Kp (fun _ => False) wr (wd.alloc (.cells zeroC 34)) := kd0.alloc _
    have HL1 : Hid (Lv (wd.alloc (.cells zeroC 34)) wd.heap.size zeroC.toList) := Lv.new wd _ _
    have HG : Hid (wr.heap.size ≤ wd.heap.size) := kd0.size
    clear hHeld
    try dsimp only
    obtain ⟨g, hg⟩ : ∃ g, g = wd.heap.size := ⟨_, rfl⟩
    obtain ⟨w1, hw1⟩ : ∃ x, x = wd.alloc (.cells zeroC 34) := ⟨_, rfl⟩
    have hw1' := hw1
    simp only [zeroC] at hw1'
    rw [← hw1] at k1 HL1
    rw [← hw1', ← hg]
    rw [← hg] at HL1 HG
    clear hw1 hw1' hg
    refine hKa.out _ _ (HSS.out _ k1) (fun hHeld => ?_)
    clear hKa Ka
    refine wpAnyH_ready (rs := [13]) (by kernel_rfl) (by simp) ?_
    refine AllReadyH.cons rfl (fun Ka hKa => ?_) AllReadyH.nil
    rw [if_pos (by rfl)]
    refine wp_store_all 34 _ _ rfl 12 g zeroC.toList ya.toList rfl (by rw [Array.toArray_toList]; rfl) HL1.out szCmd rfl (by rw [HYA.out]; rfl) HO2.out ?_
    intro w2 hl2 k2
    simp only [List.getElem_toArray, List.getElem_cons_succ, List.getElem_cons_zero, Act.put]
    have k02 : Kp (fun _ => False) wr w2 := k1.trans k2 (fun b hb e => by have := HG.out; omega)
    clear hHeld k2 hl2
    refine hKa.out _ _ (HSS.out _ k02) (fun hHeld => ?_)
    clear hKa Ka
    refine wpAnyH_take (i := 14) (v := ?zv14) (List.getElem?_toArray.trans rfl) (by kernel_rfl) (by kernel_rfl) (by kernel_rfl) (fun _ _ _ h => h) (Or.inl ⟨by rfl, ?zy14⟩) (by assumption) ?zr14
    case zy14 => (intro w hSw; obtain ⟨hs1, hs2, hs3⟩ := hSw; go_simp; try with_reducible rfl)
    simp only [Act.put, List.setIfInBounds_toArray, List.set_cons_zero, List.set_cons_succ]
    refine wpAnyH_done (by kernel_rfl) ?_ _
    have HL2 : Hid (Lv w2 t [.map (some m), .int .i64 n]) := HLn.out.keep k02 id
    have KW : Hid (Kp (fun b => b = t) w w2) := kr.trans k02 (fun _ _ e => e.elim)
    have c1 : w2.cell? ⟨t, 1, none⟩ = some (.int .i64 n) := HL2.out.cell (j := 1) rfl
    have f1 : w2.frozen? ⟨t, 1, none⟩ = false := HL2.out.fz (show 1 < 2 by omega)
    clear hHeld HSS k02 HL1 HO2 HYA k1 kd0 HG
    cases hcn : C n with
    | none =>
      have hok2 : ok = false := by rw [HOK.out, hcn]; rfl
      subst hok2
      have HFin : Hid (Fst C n) := ⟨by have := HB.out; omega, hcn, HSn.out⟩
      clear hcn
      go_wp2
      try simp only [Exit.inBlock, Exit.then]
      refine bodyPost_ret (results_none rfl _ _ _) rfl ?_
      exact ⟨rfl, KW.out, n, HL2.out, HFin.out⟩
    | some x =>
      have hok2 : ok = true := by rw [HOK.out, hcn]; rfl
      subst hok2
      have hx := HM.out.2.2.2.2 n x hcn
      have HX : Hid (1 ≤ n ∧ n ≤ 1152921504606846976 ∧ C n = some x) := ⟨hx.1, hx.2, hcn⟩
      have HW : Hid (wrap64 (n + 1) = n + 1) := by show wrap64 (n + 1) = n + 1; unfold wrap64; omega
      have ks : Kp (fun b => b = t) w2 (w2.setCell ⟨t, 1, none⟩ (.int .i64 (wrap64 (n + 1)))) := (Kp.refl (fun b => b = t) w2).setCell (fun _ => rfl) _
      have HLs : Hid (Lv (w2.setCell ⟨t, 1, none⟩ (.int .i64 (wrap64 (n + 1)))) t [.map (some m), .int .i64 (n + 1)]) := by
        have := HL2.out.set1 1 (.int .i64 (wrap64 (n + 1))) (show 1 < 2 by omega)
        rw [HW.out] at this ⊢
        exact this
      clear hcn hx
      go_wp2
      go_roundg ((1152921504606846978 - (n + 1)).toNat)
      case rel =>
        refine ⟨n + 1, by omega, by have := HX.out; omega, rfl, KW.out.trans ks (fun _ _ e => e), HLs.out, fun z hz1 hz2 => ?_⟩
        by_cases e : z = n
        · rw [e, HX.out.2.2]; rfl
        · exact HSn.out z hz1 (by omega)
      case measure => have := HX.out; omega
end Go.Proofs.Ytjbgpbafgpdciaa
