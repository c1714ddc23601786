/- A chain's Learn. -/
import Derived.Test.YtjbgpbafgpdciaaCg
import Derived.Test.YtjbgpbafgpdciaaCs
namespace Go.Proofs.Ytjbgpbafgpdciaa
set_option linter.unusedVariables false
open Go.RowKit Go.Deep Go.Maps

theorem wp_put {MT ET : TypeId} {op : Oper} {a : Act} {w : World} {K : Act → World → Prop} {Q : Exit → Act → World → Prop} (mm x v : Operand) (hop : op.op = Op.mapUpdate MT mm x v)
    (hu : Try.prog.underlying MT = some (.map 3 ET))
    (m q c : Nat) (T : Int → Option Value) (h : Mm w m q c T) (hm : a.eval mm = .map (some m)) (hq : q < 4611686018427387904) (z : Int) (hw : (Lit.int .i64 z).wf = true) (hx : a.eval x = .int .i64 z) (u : Value) (hv : a.eval v = u)
    (hK : ∀ w', Mm w' m (q + 1) (c + (if (T z).isSome then 0 else 1)) (upd T z u) → Kp (fun x => x = m) w w' → K (a.put op.dst undef) w') : op.wp Try.prog a w K Q := by
  obtain ⟨D, h1, h2⟩ := h
  obtain ⟨w', hrun, r1, r2⟩ := h1.update intLaw hu (by unfold maxLen; omega) (z_key _ hw) (d := .held u) (ps := []) (val := u) rfl
  unfold Oper.wp
  simp [execOp, hop, hm, hx, hv, hrun, Result.andThen]
  exact hK w' ⟨_, r1, h2.put (h1.tidy intLaw)⟩ ((grownBy_kp r2).mono (fun b _ e => by cases e; rfl))
theorem Fst.upd {C : Int → Option Cv} {n z : Int} {x : Cv} (h : Fst C n) : ∀ y, 1 ≤ y → y < n → (cupd C z x y).isSome = true := fun y h1 h2 => by
  unfold cupd
  by_cases e : y = z
  · rw [if_pos e]; rfl
  · rw [if_neg e]; exact h.2.2 y h1 h2

set_option maxRecDepth 100000 in
set_option maxHeartbeats 1600000 in
theorem clearn_arg {w : World} {Z : Nat → Prop} {t m q c : Nat} {nxt : Int} {C : Int → Option Cv} (h : Ch w Z t m q c nxt C) (z : Int) (hz : ¬ (1 ≤ z ∧ z ≤ 1152921504606846976)) (ca : Array Value) :
    Calls Try.prog 10 #[.pointer (some ⟨t, 0, none⟩), .int .i64 z, .agg ca] w fun e w' => e = .returned (.int .i64 1) ∧ Kp (fun _ => False) w w' := by
  have HM : Hid (∀ u, Kp (fun _ => False) w u → Calls _ _ _ u _) := fun u k => cmade_ok (h.keep0 k)
  have k0 : Kp (fun _ => False) w (w.alloc (.cells ca 34)) := (Kp.refl _ _).alloc _
  clear h
  by_cases hf : z < 1
  · clear hz
    go_enter Try.func10, Try.ntmps10
    go_wp2_with (go_at_call 22; refine (HM.out _ k0).mono ?_; rintro e w' ⟨rfl, hw'⟩; obtain rfl := hw'.symm; clear hw')
    go_ret
    exact ⟨rfl, k0⟩
  · have hg : ¬ z ≤ 1152921504606846976 := by omega
    have hg2 : z > 1152921504606846976 := by omega
    clear hz
    go_enter Try.func10, Try.ntmps10
    go_wp2_with (go_at_call 22; refine (HM.out _ k0).mono ?_; rintro e w' ⟨rfl, hw'⟩; obtain rfl := hw'.symm; clear hw')
    go_ret
    exact ⟨rfl, k0⟩

set_option maxRecDepth 100000 in
set_option maxHeartbeats 1600000 in
theorem clearn_old {w : World} {Z : Nat → Prop} {t m q c : Nat} {nxt : Int} {C : Int → Option Cv} (h : Ch w Z t m q c nxt C) (z : Int) (hz : 1 ≤ z ∧ z ≤ 1152921504606846976) (d : Cs0) (zs : List Int) (nv : Value) (X : Nat → Prop) (hn : Ni w X zs nv) (y0 : Cv) (hx : C z = some y0) :
    Calls Try.prog 10 #[.pointer (some ⟨t, 0, none⟩), .int .i64 z, .agg (cmdA d nv)] w fun e w' => ∃ b : Bool, e = .returned (.int .i64 (if b then 0 else 130)) ∧ (b = true ↔ y0.1 = d ∧ y0.2.1 = zs) ∧ Kp (fun _ => False) w w' := by
  have HM : Hid (∀ u, Kp (fun _ => False) w u → Calls _ _ _ u _) := fun u k => cmade_ok (h.keep0 k)
  have HT : Hid (Ch w Z t m q c nxt C) := h
  have HZ : Hid (-9223372036854775808 ≤ z ∧ z ≤ 9223372036854775807) := by show _ ∧ _; omega
  obtain ⟨hz1, hz2⟩ := hz
  obtain ⟨y, hy⟩ : ∃ y, y = at0 C z := ⟨_, rfl⟩
  obtain ⟨ok, hok⟩ : ∃ ok, ok = (C z).isSome := ⟨_, rfl⟩
  have HNy : Hid (Ni w Z y.2.1 y.2.2) := by rw [hy]; exact Ch.get (t := t) (m := m) (q := q) (c := c) (nxt := nxt) h.ni z
  have HLk : Hid (∀ u, Kp (fun _ => False) w u → (Instr.lookup 53 (.map (some m)) (.int .i64 z) true).run Try.prog u = .ok (.tuple #[.agg (ccell y), .bool ok]) u) := fun u k => by
    have := look_mm_ok uCmd zCmd (h.keep0 k).mm z (z_wf HZ.out)
    rw [cget, csome, ← hok] at this
    rw [hy]
    exact this
  have HO2 : Hid ((ccell y).toList.toArray.all (·.oneCell') = true) := cc_one y HNy.out
  obtain ⟨ya, hya⟩ : ∃ ya : Array Value, ya = ccell y := ⟨_, rfl⟩
  have HYA : Hid (ya = ccell y) := hya
  rw [← hya] at HLk HO2
  have HNv : Hid (Ni w X zs nv) := hn
  have hokt : ok = true := by rw [hok, hx]; rfl
  rw [hokt] at HLk
  have hyy : y = y0 := by rw [hy]; show (C z).getD _ = y0; rw [hx]; rfl
  rw [← hyy]
  have HSm : Hid (∀ u, Kp (fun _ => False) w u → Calls _ _ _ u _) := fun u ku => csame_ok y.1 d Z X y.2.1 zs y.2.2 nv u (HNy.out.keep ku (fun _ _ => id)) (hn.keep ku (fun _ _ => id))
  have hya2 : cmdA y.1 y.2.2 = ya := hya.symm
  rw [hya2] at HSm
  clear hokt hx hyy hya2 hn
  obtain ⟨va, hva⟩ : ∃ va : Array Value, va = cmdA d nv := ⟨_, rfl⟩
  have HVA : Hid (va = cmdA d nv) := hva
  have e0 : (#[.pointer (some ⟨t, 0, none⟩), .int .i64 z, .agg (cmdA d nv)] : Array Value) = #[.pointer (some ⟨t, 0, none⟩), .int .i64 z, .agg va] := by rw [hva]
  rw [e0]
  clear e0 h hy hok hya hva
  go_enter Try.func10, Try.ntmps10
  go_wp2_with fail
  obtain ⟨u, hu⟩ : ∃ x, x = w.alloc (.cells va 34) := ⟨_, rfl⟩
  rw [← hu]
  have HL0 : Hid (Lv u w.heap.size (cmdA d nv).toList) := by rw [hu, HVA.out]; exact Lv.new w _ _
  have k0 : Kp (fun _ => False) w u := by rw [hu]; exact (Kp.refl _ _).alloc _
  clear hu
  obtain ⟨g, hg⟩ : ∃ g, g = w.heap.size := ⟨_, rfl⟩
  rw [← hg] at HL0 ⊢
  have HG : Hid (w.heap.size ≤ g ∧ g < u.heap.size ∧ t < w.heap.size ∧ m < w.heap.size) := ⟨by omega, HL0.out.lt (by simp), HT.out.lt⟩
  clear hg
  refine (HM.out _ k0).mono ?_
  rintro e w' ⟨rfl, hw⟩
  obtain rfl := hw.symm
  clear hw
  have c0 := (HT.out.keep0 k0).c0
  have hlk := HLk.out u k0
  clear HM HLk
  rw [← HVA.out] at HSm
  go_wp2_with (first
    | (refine wpList_store_all rfl 34 _ _ rfl 12 u.heap.size zeroC.toList ya.toList rfl (by rw [Array.toArray_toList]; rfl) (by exact Lv.new u _ _) szCmd rfl (by rw [HYA.out]; rfl) HO2.out ?_; intro u2 hl2 k2; have ku2 : Kp (fun _ => False) u u2 := ((Kp.refl (fun _ => False) u).alloc _).trans k2 (fun b hb e => by omega); have HLg : Hid (Lv u2 g (cmdA d nv).toList) := HL0.out.keep ku2 id; have k02 := k0.trans ku2 (fun _ _ e => e); have HL2 : Hid (Lv u2 u.heap.size ya.toList) := hl2; clear hl2 k2)
    | (refine wpList_load_all rfl 34 _ rfl 12 u.heap.size ya.toList rfl HL2.out dsCmd szCmd (by rw [HYA.out]; rfl) ?_; rw [Array.toArray_toList])
    | (refine wpList_load_all rfl 34 _ rfl 12 g va.toList rfl (by rw [HVA.out]; exact HLg.out) dsCmd szCmd (by rw [HVA.out]; rfl) ?_; rw [Array.toArray_toList])
    | (go_at_call 25; refine (HSm.out _ k02).mono ?_; rintro e w3 ⟨b, rfl, hb, k3⟩; have HB : Hid (b = true ↔ y.1 = d ∧ y.2.1 = zs) := hb; clear hb; cases b))
  · go_ret
    exact ⟨false, rfl, HB.out, k02.trans k3 (fun _ _ e => e)⟩
  · go_ret
    exact ⟨true, rfl, (by simpa using HB.out), k02.trans k3 (fun _ _ e => e)⟩

set_option maxRecDepth 100000 in
set_option maxHeartbeats 1600000 in
theorem clearn_new {w : World} {Z : Nat → Prop} {t m q c : Nat} {nxt : Int} {C : Int → Option Cv} (h : Ch w Z t m q c nxt C) (z : Int) (hz : 1 ≤ z ∧ z ≤ 1152921504606846976) (d : Cs0) (zs : List Int) (nv : Value) (X : Nat → Prop) (hn : Ni w X zs nv) (hx : C z = none) (hq : q < 4611686018427387904) :
    Calls Try.prog 10 #[.pointer (some ⟨t, 0, none⟩), .int .i64 z, .agg (cmdA d nv)] w fun e w' => e = .returned (.int .i64 0) ∧ Kp (fun b => b = t ∨ b = m) w w' ∧ ∃ mv n, Ch w' (fun b => Z b ∨ w.heap.size ≤ b ∧ b < w'.heap.size) t m (q + 1) (c + 1) n (cupd C z (d, zs, mv)) := by
  have HM : Hid (∀ u, Kp (fun _ => False) w u → Calls _ _ _ u _) := fun u k => cmade_ok (h.keep0 k)
  have HT : Hid (Ch w Z t m q c nxt C) := h
  have HZ : Hid (-9223372036854775808 ≤ z ∧ z ≤ 9223372036854775807) := by show _ ∧ _; omega
  obtain ⟨hz1, hz2⟩ := hz
  obtain ⟨y, hy⟩ : ∃ y, y = at0 C z := ⟨_, rfl⟩
  obtain ⟨ok, hok⟩ : ∃ ok, ok = (C z).isSome := ⟨_, rfl⟩
  have HNy : Hid (Ni w Z y.2.1 y.2.2) := by rw [hy]; exact Ch.get (t := t) (m := m) (q := q) (c := c) (nxt := nxt) h.ni z
  have HLk : Hid (∀ u, Kp (fun _ => False) w u → (Instr.lookup 53 (.map (some m)) (.int .i64 z) true).run Try.prog u = .ok (.tuple #[.agg (ccell y), .bool ok]) u) := fun u k => by
    have := look_mm_ok uCmd zCmd (h.keep0 k).mm z (z_wf HZ.out)
    rw [cget, csome, ← hok] at this
    rw [hy]
    exact this
  have HO2 : Hid ((ccell y).toList.toArray.all (·.oneCell') = true) := cc_one y HNy.out
  obtain ⟨ya, hya⟩ : ∃ ya : Array Value, ya = ccell y := ⟨_, rfl⟩
  have HYA : Hid (ya = ccell y) := hya
  rw [← hya] at HLk HO2
  have HNv : Hid (Ni w X zs nv) := hn
  have hokt : ok = false := by rw [hok, hx]; rfl
  rw [hokt] at HLk
  have HX : Hid (C z = none) := hx
  have HQ : Hid (q < 4611686018427387904) := hq
  have HZ1 : Hid (1 ≤ z ∧ z ≤ 1152921504606846976) := ⟨hz1, hz2⟩
  obtain ⟨pn, capn, hnv, hfn, hln⟩ := hn
  have HCl : Hid (∀ u, Kp (fun _ => False) w u → Calls _ _ _ u _) := fun u ku => clone_cmd d _ pn capn zs u (hfn.keep ku (fun _ _ => id)) hln
  rw [← hnv] at HCl
  have HLn : Hid (zs.length * 8 ≤ 140737488355328) := hln
  clear hokt hx hq hnv hfn hln HNy
  obtain ⟨va, hva⟩ : ∃ va : Array Value, va = cmdA d nv := ⟨_, rfl⟩
  have HVA : Hid (va = cmdA d nv) := hva
  have e0 : (#[.pointer (some ⟨t, 0, none⟩), .int .i64 z, .agg (cmdA d nv)] : Array Value) = #[.pointer (some ⟨t, 0, none⟩), .int .i64 z, .agg va] := by rw [hva]
  rw [e0]
  clear e0 h hy hok hya hva
  go_enter Try.func10, Try.ntmps10
  go_wp2_with fail
  obtain ⟨u, hu⟩ : ∃ x, x = w.alloc (.cells va 34) := ⟨_, rfl⟩
  rw [← hu]
  have HL0 : Hid (Lv u w.heap.size (cmdA d nv).toList) := by rw [hu, HVA.out]; exact Lv.new w _ _
  have k0 : Kp (fun _ => False) w u := by rw [hu]; exact (Kp.refl _ _).alloc _
  clear hu
  obtain ⟨g, hg⟩ : ∃ g, g = w.heap.size := ⟨_, rfl⟩
  rw [← hg] at HL0 ⊢
  have HG : Hid (w.heap.size ≤ g ∧ g < u.heap.size ∧ t < w.heap.size ∧ m < w.heap.size) := ⟨by omega, HL0.out.lt (by simp), HT.out.lt⟩
  clear hg
  refine (HM.out _ k0).mono ?_
  rintro e w' ⟨rfl, hw⟩
  obtain rfl := hw.symm
  clear hw
  have c0 := (HT.out.keep0 k0).c0
  have hlk := HLk.out u k0
  clear HM HLk
  go_wp2_with (refine wpList_store_all rfl 34 _ _ rfl 12 u.heap.size zeroC.toList ya.toList rfl (by rw [Array.toArray_toList]; rfl) (by exact Lv.new u _ _) szCmd rfl (by rw [HYA.out]; rfl) HO2.out ?_; intro u2 hl2 k2; have ku2 : Kp (fun _ => False) u u2 := ((Kp.refl (fun _ => False) u).alloc _).trans k2 (fun b hb e => by omega); have HLg : Hid (Lv u2 g (cmdA d nv).toList) := HL0.out.keep ku2 id; have k02 := k0.trans ku2 (fun _ _ e => e); have HL2 : Hid (Lv u2 u.heap.size ya.toList) := hl2; clear hl2 k2)
  clear hlk
  have HSS : Hid (∀ x, Kp (fun _ => False) u2 x → x.cell? ⟨t, 0, none⟩ = some (.map (some m)) ∧ x.rangeAt g 0 (cmdA d nv).toList) := fun x kx => ⟨(HT.out.keep0 (k02.trans kx (fun _ _ e => e))).c0, (HLg.out.keep kx id).r⟩
  obtain ⟨dC, hdC1, hdC2⟩ := dsCmd
  have kd0 : Kp (fun _ => False) u2 u2.drew := (Kp.refl _ _).drew
  obtain ⟨wd, hwd⟩ : ∃ x, x = u2.drew := ⟨_, rfl⟩
  refine wp_region_held_drew (S := (fun x : World => x.cell? ⟨t, 0, none⟩ = some (.map (some m)) ∧ x.rangeAt g 0 (cmdA d nv).toList)) (by kernel_rfl) (HSS.out _ kd0) (fun hHeld => ?_)
  rw [← hwd] at kd0 hHeld ⊢
  clear hwd
  simp only [List.size_toArray, List.length_cons, List.length_nil, Nat.zero_add, Nat.reduceAdd]
  refine wpAnyH_take (i := 0) (v := ?zv0) (List.getElem?_toArray.trans rfl) (by kernel_rfl) (by kernel_rfl) (by kernel_rfl) (fun _ _ _ h => h) (Or.inl ⟨by rfl, ?zy0⟩) (by assumption) ?zr0
  case zy0 => (intro w hSw; obtain ⟨hs1, hs2⟩ := hSw; go_simp; try with_reducible rfl)
  simp only [Act.put, List.setIfInBounds_toArray, List.set_cons_zero, List.set_cons_succ]
  refine wpAnyH_take (i := 1) (v := ?zv1) (List.getElem?_toArray.trans rfl) (by kernel_rfl) (by kernel_rfl) (by kernel_rfl) (fun _ _ _ h => h) (Or.inl ⟨by rfl, ?zy1⟩) (by assumption) ?zr1
  case zy1 => (intro w hSw; obtain ⟨hs1, hs2⟩ := hSw; go_simp; try with_reducible rfl)
  simp only [Act.put, List.setIfInBounds_toArray, List.set_cons_zero, List.set_cons_succ]
  refine wpAnyH_take (i := 2) (v := ?zv2) (List.getElem?_toArray.trans rfl) (by kernel_rfl) (by kernel_rfl) (by kernel_rfl) (fun _ _ _ h => h) (Or.inl ⟨by rfl, ?zy2⟩) (by assumption) ?zr2
  case zy2 => (intro w hSw; obtain ⟨hs1, hs2⟩ := hSw; go_simp; try with_reducible rfl)
  simp only [Act.put, List.setIfInBounds_toArray, List.set_cons_zero, List.set_cons_succ]
  refine wpAnyH_take (i := 3) (v := ?zv3) (List.getElem?_toArray.trans rfl) (by kernel_rfl) (by kernel_rfl) (by kernel_rfl) (fun _ _ _ h => h) (Or.inl ⟨by rfl, ?zy3⟩) (by assumption) ?zr3
  case zy3 => (intro w hSw; obtain ⟨hs1, hs2⟩ := hSw; go_simp; try with_reducible rfl)
  simp only [Act.put, List.setIfInBounds_toArray, List.set_cons_zero, List.set_cons_succ]
  refine wpAnyH_take (i := 4) (v := ?zv4) (List.getElem?_toArray.trans rfl) (by kernel_rfl) (by kernel_rfl) (by kernel_rfl) (fun _ _ _ h => h) (Or.inl ⟨by rfl, ?zy4⟩) (by assumption) ?zr4
  case zy4 => (intro w hSw; obtain ⟨hs1, hs2⟩ := hSw; go_simp; try with_reducible rfl)
  simp only [Act.put, List.setIfInBounds_toArray, List.set_cons_zero, List.set_cons_succ]
  refine wpAnyH_take (i := 5) (v := .agg (cmdA d nv)) (List.getElem?_toArray.trans rfl) (by kernel_rfl) (by kernel_rfl) (by kernel_rfl) (fun _ _ _ h => h) (yieldsIf_load_mid (by rfl) 34 _ rfl g 0 rfl (cmdA d nv).toList dC (fun x hx => hx.2) hdC1 hdC2 (by rw [szCmd]; rfl)) (by assumption) ?_
  simp only [Act.put, List.setIfInBounds_toArray, List.set_cons_zero, List.set_cons_succ]
  refine wpAnyH_ready (rs := [6]) (by kernel_rfl) (by simp) ?_
  refine AllReadyH.cons rfl (fun Ka hKa => ?_) AllReadyH.nil
  rw [if_pos (by rfl)]
  go_simp
  refine (HCl.out wd (k02.trans kd0 (fun _ _ e => e))).mono ?_
  rintro e w3 ⟨r, cr, rfl, k3, hfl⟩
  have k23 : Kp (fun _ => False) u2 w3 := kd0.trans k3 (fun _ _ e => e)
  have HFl : Hid (Fl w3 (fun b => wd.heap.size ≤ b ∧ b < w3.heap.size) r (zs.map encI)) := hfl
  have k03 := k02.trans k23 (fun _ _ e => e)
  have HGd : Hid (w.heap.size ≤ wd.heap.size) := (k02.trans kd0 (fun _ _ e => e)).size
  clear hHeld hfl
  try dsimp only
  refine hKa.out _ _ (HSS.out _ k23) (fun hHeld => ?_)
  clear hKa Ka k3 kd0
  refine wpAnyH_ready (rs := [7]) (by kernel_rfl) (by simp) ?_
  refine AllReadyH.cons rfl (fun Ka hKa => ?_) AllReadyH.nil
  rw [if_pos (by rfl)]
  refine wp_put _ _ _ rfl uCmd m q c (cmap C) (HT.out.keep0 k03).mm rfl HQ.out z (z_wf HZ.out) rfl (.agg (ccell (d, zs, .slice r zs.length cr))) rfl ?_
  intro w5 hm5 k5
  simp only [List.getElem_toArray, List.getElem_cons_succ, List.getElem_cons_zero, Act.put]
  have hlv5 : Lv w5 t [.map (some m), .int .i64 nxt] := (HT.out.keep0 k03).lv.keep k5 HT.out.ne
  have HM5 : Hid (Mm w5 m (q + 1) (c + 1) (cmap (cupd C z (d, zs, .slice r zs.length cr)))) := by
    rw [csome, HX.out, cmap_upd] at hm5
    exact hm5
  have HNi : Hid (∀ y x, cupd C z (d, zs, .slice r zs.length cr) y = some x → Ni w5 (fun b => Z b ∨ w.heap.size ≤ b ∧ b < w5.heap.size) x.2.1 x.2.2) := fun y x hx => by
    unfold cupd at hx
    by_cases e : y = z
    · rw [if_pos e] at hx
      injection hx with hx
      subst hx
      exact ⟨r, cr, rfl, (HFl.out.keep k5 (fun b hb e => by have := HG.out; have := HGd.out; omega)).mono (fun b hb => Or.inr (by have := HGd.out; have := k5.size; omega)), HLn.out⟩
    · rw [if_neg e] at hx
      exact (((HT.out.keep0 k03).ni y x hx).keep k5 (fun b hb => (HT.out.ap b hb).2)).mono (fun b hb => Or.inl hb)
  have HAp : Hid (∀ b, (Z b ∨ w.heap.size ≤ b ∧ b < w5.heap.size) → b ≠ t ∧ b ≠ m) := fun b hb => by
    rcases hb with hb | hb
    · exact HT.out.ap b hb
    · have := HG.out; omega
  have HDm : Hid (∀ y x, cupd C z (d, zs, .slice r zs.length cr) y = some x → 1 ≤ y ∧ y ≤ 1152921504606846976) := fun y x hx => by
    unfold cupd at hx
    by_cases e : y = z
    · rw [e]; exact HZ1.out
    · rw [if_neg e] at hx
      exact HT.out.dm y x hx
  have hS5 : w5.cell? ⟨t, 0, none⟩ = some (.map (some m)) ∧ w5.rangeAt g 0 (cmdA d nv).toList := ⟨hlv5.cell (j := 0) rfl, ((HLg.out.keep k23 id).keep k5 (fun e => by have := HG.out; omega)).r⟩
  have HK5 : Hid (Kp (fun b => b = t ∨ b = m) w w5) := (k03.mono (fun _ _ e => e.elim)).trans k5 (fun _ _ e => Or.inr e)
  have HP : Hid (Calls _ _ _ w5 _) := cpass_ok hlv5 HM5.out HT.out.ne HNi.out HAp.out HT.out.rng HT.out.fs.upd HDm.out
  clear hHeld hm5 hlv5
  refine hKa.out _ _ hS5 (fun hHeld => ?_)
  refine wpAnyH_done (by kernel_rfl) ?_ _
  clear hKa Ka hHeld HSS hS5 k5 k23 k03 HFl HL0 HLg HL2
  go_wp2_with (go_at_call 24; refine HP.out.mono ?_; rintro e w6 ⟨rfl, k6, n6, hl6, hf6⟩)
  go_ret
  refine ⟨rfl, HK5.out.trans k6 (fun _ _ e => Or.inl e), .slice r zs.length cr, n6, hl6, HM5.out.keep k6 (fun e => HT.out.ne e.symm), HT.out.ne, fun y x hx => ((HNi.out y x hx).keep k6 (fun b hb => (HAp.out b hb).1)).mono (fun b hb => ?_), fun b hb => ?_, hf6, HDm.out⟩
  · rcases hb with hb | hb
    · exact Or.inl hb
    · exact Or.inr ⟨hb.1, Nat.lt_of_lt_of_le hb.2 k6.size⟩
  · rcases hb with hb | hb
    · exact HT.out.ap b hb
    · have := HG.out; omega

end Go.Proofs.Ytjbgpbafgpdciaa
