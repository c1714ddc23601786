/- Packets are taken, lost, sent, doubled. -/
import Derived.Test.YtiplhbpjppkniaaQp
namespace Go.Proofs.Ytiplhbpjppkniaa
set_option linter.unusedVariables false
open Go.RowKit Go.Deep Go.Maps

set_option maxRecDepth 100000 in
set_option maxHeartbeats 1600000 in
theorem take_none {w : World} {p m q n c : Nat} {T : Nat → Option Value} (h : Ps w p m q n c T) (ii : Int) (hw : (Lit.int .i64 ii).wf = true) (hu : Tz T ii = none) :
    Calls Try.prog 12 #[.pointer (some ⟨p, 0, none⟩), .int .i64 ii] w fun e w' => e = .returned (.tuple #[nilMsg 0, .int .i64 90]) ∧ Kp (fun _ => False) w w' := by
  have HPk : Hid (∀ u, Kp (fun _ => False) w u → Calls _ _ _ u _) := fun u k => packet_none (h.keep k id id) ii hw hu
  have HO1 : Hid ((nilArr 0).toList.toArray.all (·.oneCell') = true) := nil_one 0
  clear h hu
  go_enter Try.func12, Try.ntmps12
  go_wp2_with fail
  obtain ⟨u, hu⟩ : ∃ x, x = w.alloc (.cells (nilArr 0) 38) := ⟨_, rfl⟩
  have HL0 : Hid (Lv u w.heap.size (nilArr 0).toList) := by rw [hu]; exact Lv.new w _ _
  have k0 : Kp (fun _ => False) w u := by rw [hu]; exact (Kp.refl _ _).alloc _
  have e0 : w.alloc (.cells (nilArr 0) 38) = u := hu.symm
  simp only [nilArr] at e0
  rw [e0]
  clear e0 hu
  obtain ⟨g, hg⟩ : ∃ g, g = w.heap.size := ⟨_, rfl⟩
  rw [← hg] at HL0 ⊢
  have HG : Hid (w.heap.size ≤ g) := by show _ ≤ _; omega
  clear hg
  refine (HPk.out _ k0).mono ?_
  rintro e w1 ⟨rfl, k1⟩
  have k01 := k0.trans k1 (fun _ _ e => e)
  have HL1 : Hid (Lv w1 g (nilArr 0).toList) := HL0.out.keep k1 id
  clear HPk HL0
  go_wp2_with (first
    | (refine wpList_store_all rfl 38 _ _ rfl 24 w1.heap.size (nilArr 0).toList (nilArr 0).toList rfl rfl (by exact Lv.new w1 _ _) sizeMsg rfl rfl HO1.out ?_; intro u2 hl2 k2; have ku2 : Kp (fun _ => False) w1 u2 := ((Kp.refl (fun _ => False) w1).alloc _).trans k2 (fun b hb e => by omega); have k02 := k01.trans ku2 (fun _ _ e => e); have HL2 : Hid (Lv u2 g (nilArr 0).toList) := HL1.out.keep ku2 id; clear hl2 k2)
    | (refine wpList_store_all rfl 38 _ _ rfl 24 g (nilArr 0).toList (nilArr 0).toList rfl rfl HL2.out sizeMsg rfl rfl HO1.out ?_; intro u4 hl4 k4))
  have hld := hl4.load descMsg sizeMsg rfl
  refine bodyPost_ret (res_cell_tmp Try.results12 _ _ g _ rfl hld) rfl ?_
  exact ⟨rfl, k02.trans k4 (fun b hb e => by have := HG.out; omega)⟩

set_option maxRecDepth 100000 in
set_option maxHeartbeats 1600000 in
theorem lose_some {w : World} {p m q n c : Nat} {T : Nat → Option Value} (h : Ps w p m q n c T) (hn : n ≤ 10000) (i : Nat) (v : Value) (hu : T i = some v) (hs : Sh v) :
    Calls Try.prog 15 #[.pointer (some ⟨p, 0, none⟩), .int .i64 (i : Int)] w fun e w' => e = .returned (.int .i64 0) ∧ Kp (fun b => b = m) w w' ∧ Ps w' p m q n (c - 1) (fun j => if j = i then none else T j) := by
  have HT : Hid (Calls _ _ _ w _) := take_some h hn i v hu hs
  have HPM : Hid (p < w.heap.size ∧ m < w.heap.size) := ⟨h.lt, h.mp.lt⟩
  obtain ⟨cs, rfl, hc24, hc1⟩ := hs
  have HL24 : Hid (cs.length = 24) := hc24
  have HO1 : Hid (cs.toArray.all (·.oneCell') = true) := all_oneCell_toArray hc1
  clear h hu hc24 hc1
  go_enter Try.func15, Try.ntmps15
  go_wp2_with fail
  refine HT.out.mono ?_
  rintro e w1 ⟨rfl, k1, hP1⟩
  have HP1 : Hid (Ps w1 p m q n (c - 1) (fun j => if j = i then none else T j)) := hP1
  clear hP1 HT
  go_wp2_with (refine wpList_store_all rfl 38 _ _ rfl 24 w1.heap.size (nilArr 0).toList cs rfl rfl (by exact Lv.new w1 _ _) sizeMsg rfl HL24.out HO1.out ?_; intro u2 hl2 k2; have ku2 : Kp (fun _ => False) w1 u2 := ((Kp.refl (fun _ => False) w1).alloc _).trans k2 (fun b hb e => by omega); clear hl2 k2)
  go_ret
  exact ⟨rfl, k1.trans ku2 (fun _ _ e => e.elim), HP1.out.keep ku2 id id⟩

set_option maxRecDepth 100000 in
set_option maxHeartbeats 1600000 in
theorem lose_none {w : World} {p m q n c : Nat} {T : Nat → Option Value} (h : Ps w p m q n c T) (ii : Int) (hw : (Lit.int .i64 ii).wf = true) (hu : Tz T ii = none) :
    Calls Try.prog 15 #[.pointer (some ⟨p, 0, none⟩), .int .i64 ii] w fun e w' => e = .returned (.int .i64 90) ∧ Kp (fun _ => False) w w' := by
  have HT : Hid (Calls _ _ _ w _) := take_none h ii hw hu
  clear h hu
  go_enter Try.func15, Try.ntmps15
  go_wp2_with fail
  refine HT.out.mono ?_
  rintro e w1 ⟨rfl, k1⟩
  have HO1 : Hid ((nilArr 0).toList.toArray.all (·.oneCell') = true) := nil_one 0
  clear HT
  go_wp2_with (refine wpList_store_all rfl 38 _ _ rfl 24 w1.heap.size (nilArr 0).toList (nilArr 0).toList rfl rfl (by exact Lv.new w1 _ _) sizeMsg rfl rfl HO1.out ?_; intro u2 hl2 k2; have ku2 : Kp (fun _ => False) w1 u2 := ((Kp.refl (fun _ => False) w1).alloc _).trans k2 (fun b hb e => by omega); clear hl2 k2)
  go_ret
  exact ⟨rfl, k1.trans ku2 (fun _ _ e => e)⟩

theorem store_run {w : World} {m q n c : Nat} {T : Nat → Option Value} (h : Qm w m q n c T) (hq : q ≤ 100000) (hn : n ≤ 100000) (x : Int) (hx : x = (n : Int)) (u : Value) :
    ∃ w', (Instr.mapUpdate 58 (.map (some m)) (.int .i64 x) u).run Try.prog w = .ok () w' ∧ Qm w' m (q + 1) (n + 1) (c + 1) (fun j => if j = n then some u else T j) ∧ Kp (fun b => b = m) w w' := by
  subst hx
  obtain ⟨D, h1, h2⟩ := h
  obtain ⟨w', hr, r1, r2⟩ := h1.update intLaw Try.underlying58 (by unfold maxLen; omega) (id_key (n : Int) (WalkArith.wf_i64 (by omega))) (val := u) (d := .held u) (ps := []) rfl
  exact ⟨w', hr, ⟨_, r1, h2.put (h1.tidy intLaw)⟩, (grownBy_kp r2).mono (fun b _ e => by cases e; rfl)⟩
/-- what clone.Msg does to a value: another one, of which G holds -/
def Cl (v : Value) (w : World) (S : Nat → Prop) (G : Value → World → Prop) : Prop := ∀ u, Kp S w u → Calls Try.prog 23 #[v] u fun e w' => ∃ v', e = .returned v' ∧ Sh v' ∧ Kp (fun _ => False) u w' ∧ G v' w'

set_option maxRecDepth 100000 in
set_option maxHeartbeats 1600000 in
theorem send_ok {w : World} {p m q n c : Nat} {T : Nat → Option Value} (h : Ps w p m q n c T) (hn : n ≤ 10000) (hq : q ≤ 10000) (hc : (c : Int) < 4000) (v : Value) (hs : Sh v) (G : Value → World → Prop) (hcl : Cl v w (fun b => b = p ∨ b = m) G) (hG : ∀ v' u u', G v' u → Kp (fun b => b = p ∨ b = m) u u' → w.heap.size ≤ u.heap.size → G v' u') :
    Calls Try.prog 9 #[.pointer (some ⟨p, 0, none⟩), v] w fun e w' => e = .returned (.tuple #[.int .i64 ((n + 1 : Nat) : Int), .int .i64 0]) ∧ Kp (fun b => b = p ∨ b = m) w w' ∧ ∃ v', Sh v' ∧ G v' w' ∧ Ps w' p m (q + 1) (n + 1) (c + 1) (fun j => if j = n + 1 then some v' else T j) := by
  have HPm : Hid (Calls _ _ _ w _) := pmade_ok h
  have HPs : Hid (Ps w p m q n c T) := h
  have d1 : decide ((4000 : Int) ≤ (c : Int)) = false := by simp; omega
  have hni : (n : Int) ≤ 10000 := by omega
  clear h
  have HCl : Hid (Cl v w (fun b => b = p ∨ b = m) G) := hcl
  have HGk : Hid (∀ v' u u', G v' u → Kp (fun b => b = p ∨ b = m) u u' → w.heap.size ≤ u.heap.size → G v' u') := hG
  have HNQ : Hid (n ≤ 10000 ∧ q ≤ 10000) := ⟨hn, hq⟩
  obtain ⟨cs, rfl, hc24, hc1⟩ := hs
  have HL24 : Hid (cs.length = 24) := hc24
  have HO1 : Hid (cs.toArray.all (·.oneCell') = true) := all_oneCell_toArray hc1
  clear hc24 hc1 hcl hG hn hq
  go_enter Try.func9, Try.ntmps9
  go_wp2_with fail
  obtain ⟨u, hu⟩ : ∃ x, x = w.alloc (.cells cs.toArray 38) := ⟨_, rfl⟩
  have HL0 : Hid (Lv u w.heap.size cs) := by rw [hu]; exact Lv.new w cs.toArray 38
  have k0 : Kp (fun _ => False) w u := by rw [hu]; exact (Kp.refl _ _).alloc _
  rw [← hu]
  clear hu
  obtain ⟨g, hg⟩ : ∃ g, g = w.heap.size := ⟨_, rfl⟩
  rw [← hg] at HL0 ⊢
  have HG : Hid (w.heap.size ≤ g) := by show _ ≤ _; omega
  have hpg : ¬ p = g := by have := HPs.out.lt; omega
  clear hg
  have HPu : Hid (Ps u p m q n c T) := HPs.out.keep k0 id id
  have HPmu : Hid (Calls _ _ _ u _) := pmade_ok HPu.out
  have c0 := HPu.out.c0
  have c1 := HPu.out.c1
  have f0 := HPu.out.fz 0
  have hlen := len_msg HPu.out.mp
  refine HPmu.out.mono ?_
  rintro e w' ⟨rfl, hw⟩
  obtain rfl := hw.symm
  clear hw HPm HPmu
  go_wp2_with fail
  obtain ⟨w2, hw2⟩ : ∃ x, x = u.setCell ⟨p, 0, none⟩ (.int .i64 ((n : Int) + 1)) := ⟨_, rfl⟩
  have kw2 : Kp (fun b => b = p) u w2 := by rw [hw2]; exact (Kp.refl (fun b => b = p) _).setCell (fun _ => rfl) _
  have HC2 : Hid (w2.cell? ⟨p, 0, none⟩ = some (.int .i64 ((n : Int) + 1)) ∧ w2.cell? ⟨p, 1, none⟩ = some (.map (some m)) ∧ ∀ j, w2.frozen? ⟨p, j, none⟩ = false) := by
    refine ⟨?_, ?_, fun j => ?_⟩
    · rw [hw2]; exact World.cell?_setCell_same _ _ _ HPu.out.c0
    · rw [hw2, World.cell?_setCell_other _ _ _ _ (by simp)]; exact HPu.out.c1
    · rw [hw2, World.frozen?_setCell]; exact HPu.out.fz j
  have HL2 : Hid (Lv w2 g cs) := HL0.out.keep kw2 (fun e => hpg e.symm)
  have HQ2 : Hid (Qm w2 m q (n + 1) c T) := HPu.out.mp.keep kw2 (fun e => HPu.out.pm e.symm)
  have HPMn : Hid (p ≠ m ∧ p < w.heap.size ∧ m < w.heap.size) := ⟨HPs.out.pm, HPs.out.lt, HPs.out.mp.lt⟩
  rw [← hw2]
  clear hw2 c0 c1 f0 hlen HL0
  have HK2 : Hid (Kp (fun b => b = p) w w2) := (k0.mono (fun _ _ e => e.elim)).trans kw2 (fun _ _ e => e)
  have HS : Hid (∀ z, Kp (fun b => b = m) w2 z → (z.cell? ⟨p, 0, none⟩ = some (.int .i64 ((n : Int) + 1)) ∧ z.cell? ⟨p, 1, none⟩ = some (.map (some m)) ∧ z.rangeAt g 0 cs)) := fun z kz => ⟨kz.cellv HC2.out.1 HPMn.out.1, kz.cellv HC2.out.2.1 HPMn.out.1, (HL2.out.keep kz (fun e => by have := HPMn.out; have := HG.out; omega)).r⟩
  have kd : Kp (fun _ => False) w2 w2.drew := (Kp.refl _ _).drew
  refine wp_region_held_drew (S := (fun z => z.cell? ⟨p, 0, none⟩ = some (.int .i64 ((n : Int) + 1)) ∧ z.cell? ⟨p, 1, none⟩ = some (.map (some m)) ∧ z.rangeAt g 0 cs)) (by kernel_rfl) (HS.out _ (kd.mono (fun _ _ e => e.elim))) (fun hHeld => ?_)
  obtain ⟨wd, hwd⟩ : ∃ x, x = w2.drew := ⟨_, rfl⟩
  rw [← hwd] at kd hHeld ⊢
  clear hwd kw2
  simp only [List.size_toArray, List.length_cons, List.length_nil, Nat.zero_add, Nat.reduceAdd]
  refine wpAnyH_take (i := 0) (v := ?zv0) (List.getElem?_toArray.trans rfl) (by kernel_rfl) (by kernel_rfl) (by kernel_rfl) (fun _ _ _ h => h) (Or.inl ⟨by rfl, ?zy0⟩) (by assumption) ?zr0
  case zy0 => (intro w hSw; (try dsimp only at hSw); go_simp; try with_reducible rfl)
  simp only [Act.put, List.setIfInBounds_toArray, List.set_cons_zero, List.set_cons_succ]
  refine wpAnyH_take (i := 1) (v := ?zv1) (List.getElem?_toArray.trans rfl) (by kernel_rfl) (by kernel_rfl) (by kernel_rfl) (fun _ _ _ h => h) (Or.inl ⟨by rfl, ?zy1⟩) (by assumption) ?zr1
  case zy1 => (intro w hSw; (try dsimp only at hSw); go_simp; try with_reducible rfl)
  simp only [Act.put, List.setIfInBounds_toArray, List.set_cons_zero, List.set_cons_succ]
  refine wpAnyH_take (i := 2) (v := ?zv2) (List.getElem?_toArray.trans rfl) (by kernel_rfl) (by kernel_rfl) (by kernel_rfl) (fun _ _ _ h => h) (Or.inl ⟨by rfl, ?zy2⟩) (by assumption) ?zr2
  case zy2 => (intro w hSw; (try dsimp only at hSw); go_simp; try with_reducible rfl)
  simp only [Act.put, List.setIfInBounds_toArray, List.set_cons_zero, List.set_cons_succ]
  refine wpAnyH_take (i := 3) (v := ?zv3) (List.getElem?_toArray.trans rfl) (by kernel_rfl) (by kernel_rfl) (by kernel_rfl) (fun _ _ _ h => h) (Or.inl ⟨by rfl, ?zy3⟩) (by assumption) ?zr3
  case zy3 => (intro w hSw; (try dsimp only at hSw); go_simp; try with_reducible rfl)
  simp only [Act.put, List.setIfInBounds_toArray, List.set_cons_zero, List.set_cons_succ]
  refine wpAnyH_take (i := 4) (v := ?zv4) (List.getElem?_toArray.trans rfl) (by kernel_rfl) (by kernel_rfl) (by kernel_rfl) (fun _ _ _ h => h) (Or.inl ⟨by rfl, ?zy4⟩) (by assumption) ?zr4
  case zy4 => (intro w hSw; (try dsimp only at hSw); go_simp; try with_reducible rfl)
  simp only [Act.put, List.setIfInBounds_toArray, List.set_cons_zero, List.set_cons_succ]
  refine wpAnyH_take (i := 5) (v := ?zv5) (List.getElem?_toArray.trans rfl) (by kernel_rfl) (by kernel_rfl) (by kernel_rfl) (fun _ _ _ h => h) (Or.inl ⟨by rfl, ?zy5⟩) (by assumption) ?zr5
  case zy5 => (intro w hSw; (try dsimp only at hSw); go_simp; try with_reducible rfl)
  simp only [Act.put, List.setIfInBounds_toArray, List.set_cons_zero, List.set_cons_succ]
  refine wpAnyH_take (i := 6) (v := ?zv6) (List.getElem?_toArray.trans rfl) (by kernel_rfl) (by kernel_rfl) (by kernel_rfl) (fun _ _ _ h => h) (Or.inl ⟨by rfl, ?zy6⟩) (by assumption) ?zr6
  case zy6 => (intro w hSw; (try dsimp only at hSw); go_simp; try with_reducible rfl)
  simp only [Act.put, List.setIfInBounds_toArray, List.set_cons_zero, List.set_cons_succ]
  refine wpAnyH_take (i := 7) (v := ?zv7) (List.getElem?_toArray.trans rfl) (by kernel_rfl) (by kernel_rfl) (by kernel_rfl) (fun _ _ _ h => h) (Or.inl ⟨by rfl, ?zy7⟩) (by assumption) ?zr7
  case zy7 => (intro w hSw; (try dsimp only at hSw); go_simp; try with_reducible rfl)
  simp only [Act.put, List.setIfInBounds_toArray, List.set_cons_zero, List.set_cons_succ]
  refine wpAnyH_take (i := 8) (v := .agg cs.toArray) (List.getElem?_toArray.trans rfl) (by kernel_rfl) (by kernel_rfl) (by kernel_rfl) (fun _ _ _ h => h) (by obtain ⟨d, hd1, hd2⟩ := descMsg; exact yieldsIf_load_mid rfl 38 (.tmp 3) rfl g 0 rfl cs d (fun w h => h.2.2) hd1 hd2 (by rw [sizeMsg, HL24.out])) (by assumption) ?zr8
  simp only [Act.put, List.setIfInBounds_toArray, List.set_cons_zero, List.set_cons_succ]
  refine wpAnyH_ready (rs := [9]) (by kernel_rfl) (by simp) ?_
  refine AllReadyH.cons rfl (fun Ka hKa => ?_) AllReadyH.nil
  go_simp
  have kwd : Kp (fun b => b = p ∨ b = m) w wd := (HK2.out.mono (fun _ _ e => Or.inl e)).trans kd (fun _ _ e => e.elim)
  refine (HCl.out wd kwd).mono ?_
  rintro e w3 ⟨v3, rfl, hs3, k3, hG3⟩
  have HG3 : Hid (G v3 w3) := hG3
  have HS3 : Hid (Sh v3) := hs3
  have kd3 : Kp (fun _ => False) w2 w3 := kd.trans k3 (fun _ _ e => e)
  clear hG3 hs3
  refine hKa.out _ _ (HS.out _ (kd3.mono (fun _ _ e => e.elim))) (fun hHeld => ?_)
  clear hKa Ka hHeld
  refine wpAnyH_ready (rs := [10]) (by kernel_rfl) (by simp) ?_
  refine AllReadyH.cons rfl (fun Kb hKb => ?_) AllReadyH.nil
  obtain ⟨w4, hr4, hq4, k4⟩ := store_run (HQ2.out.keep kd3 id) (by have := HNQ.out; omega) (by have := HNQ.out; omega) ((n : Int) + 1) (by omega) v3
  have HQ4 : Hid (Qm w4 m (q + 1) (n + 1 + 1) (c + 1) (fun j => if j = n + 1 then some v3 else T j)) := hq4
  clear hq4
  go_simp
  have k24 : Kp (fun b => b = m) w2 w4 := (kd3.mono (fun _ _ e => e.elim)).trans k4 (fun _ _ e => e)
  refine hKb.out _ _ (HS.out _ k24) (fun hHeld => ?_)
  refine wpAnyH_done (by kernel_rfl) ?_ _
  clear hKb Kb hr4
  have c04 := hHeld.1
  have c14 := hHeld.2.1
  clear hHeld
  go_wp2
  go_ret2
  have k04 : Kp (fun b => b = p ∨ b = m) w w4 := (HK2.out.mono (fun _ _ e => Or.inl e)).trans k24 (fun _ _ e => Or.inr e)
  have e1 : ((n + 1 : Nat) : Int) = (n : Int) + 1 := by omega
  rw [e1]
  refine ⟨rfl, k04, v3, HS3.out, HGk.out v3 w3 w4 HG3.out (k4.mono (fun _ _ e => Or.inr e)) ?_, ?_, c14, fun j => ?_, HQ4.out, HPMn.out.1⟩
  · exact Nat.le_trans HK2.out.size kd3.size
  · rw [e1]; exact c04
  · rw [World.frozen?_of_block (w := w2) (k24.block p (World.block_lt_of_cell? _ _ HC2.out.1) HPMn.out.1)]; exact HC2.out.2.2 j
end Go.Proofs.Ytiplhbpjppkniaa
