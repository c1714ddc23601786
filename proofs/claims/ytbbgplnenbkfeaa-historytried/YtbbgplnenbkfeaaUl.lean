/- Whether a call finds its place in an order (laid by scripts/mkul.py). -/
import Derived.Test.YtbbgplnenbkfeaaUk
namespace Go.Proofs.Ytbbgplnenbkfeaa
set_option linter.unusedVariables false
set_option linter.unusedSimpArgs false
open Go.RowKit Go.Deep Go.Maps

/-- whether the call i finds its place -/
def fitsP (cs : List Hc) (pt er : Nat) (wt et : Int) (i : Nat) : Bool :=
  let c := cs.getD i hc0
  if i = pt then withinP c wt wt else if i = er then withinP c et et else if c.says == 0 then true
  else if c.says == 2 then withinP c wt never else if c.says == 3 then withinP c 0 wt || withinP c et never
  else if readsP c then withinP c wt et && decide (c.g.xs = (cs.getD pt hc0).e.b.xs) else false

set_option maxRecDepth 100000 in
set_option maxHeartbeats 6400000 in
theorem order1_ok (Z : Nat → Prop) (b o n cap : Nat) (cs : List Hc) (w : World) (h : Fl w Z (some ⟨b, o, none⟩) (hflat cs)) (hok : ∀ c ∈ cs, c.ok w) (hn : cs.length = n) (bc bp bw be br pt er : Nat) (wt et : Int)
    (hbc : w.cell? ⟨bc, 0, none⟩ = some (.slice (some ⟨b, o, none⟩) n cap)) (hbp : w.cell? ⟨bp, 0, none⟩ = some (.int .i64 (pt : Int))) (hbw : w.cell? ⟨bw, 0, none⟩ = some (.int .i64 wt)) (hbe : w.cell? ⟨be, 0, none⟩ = some (.int .i64 (er : Int))) (hbr : w.cell? ⟨br, 0, none⟩ = some (.int .i64 et))
    (i : Nat) (hi : i < n) (hp : pt < n) :
    Calls Try.prog 40 #[.int .i64 (i : Int), .pointer (some ⟨bc, 0, none⟩), .pointer (some ⟨bp, 0, none⟩), .pointer (some ⟨bw, 0, none⟩), .pointer (some ⟨be, 0, none⟩), .pointer (some ⟨br, 0, none⟩)] w fun e w' => e = .returned (.bool (fitsP cs pt er wt et i)) ∧ Kp (fun _ => False) w w' := by
  have hil : i < cs.length := by omega
  obtain ⟨c, hc⟩ : ∃ c, c = cs.getD i hc0 := ⟨_, rfl⟩
  have hcg : cs[i]? = some c := by rw [hc, List.getD_eq_getElem?_getD, List.getElem?_eq_getElem hil]; rfl
  obtain ⟨pc, hpc⟩ : ∃ pc, pc = cs.getD pt hc0 := ⟨_, rfl⟩
  have hpg : cs[pt]? = some pc := by rw [hpc, List.getD_eq_getElem?_getD, List.getElem?_eq_getElem (show pt < cs.length by omega)]; rfl
  unfold fitsP
  simp only [← hc, ← hpc]
  have HCok : Hid (c.ok w) := hok c (List.mem_of_getElem? hcg)
  have HPok : Hid (pc.ok w) := hok pc (List.mem_of_getElem? hpg)
  have r1 : w.rangeAt b (o + i * 10) (hcell c) := fun j v hv => by
    obtain ⟨b', o', e, _, h2⟩ := h (i * 10 + j) v (hflat_get cs i j c v hcg hv)
    cases e
    rwa [Nat.add_assoc]
  have r4 : w.cell? ⟨b, o + pt * 10 + 4, none⟩ = some pc.e.b.v := by
    obtain ⟨b', o', e, _, h2⟩ := h (pt * 10 + 4) pc.e.b.v (hflat_get cs pt 4 pc _ hpg rfl)
    cases e
    rwa [Nat.add_assoc]
  have HR1 : Hid (w.rangeAt b (o + i * 10) (hcell c)) := r1
  have HO1 : Hid ((hcell c).toArray.all (·.oneCell') = true) := hc_one c HCok.out.e.b.one HCok.out.g.one
  have HW : Hid (∀ f l u, Calls Try.prog 41 #[.agg (hcell c).toArray, .int .i64 f, .int .i64 l] u fun e w' => e = .returned (.bool (withinP c f l)) ∧ Kp (fun _ => False) u w') := fun f l u => within_ok c f l u
  have HRB : Hid (∀ u, Calls Try.prog 31 #[.agg (hcell c).toArray] u fun e w' => e = .returned (.bool (readsP c)) ∧ Kp (fun _ => False) u w') := fun u => readsB_ok c u
  have HBE : Hid (∀ u, Kp (fun _ => False) w u → Calls Try.prog 26 #[c.g.v, pc.e.b.v] u fun e w' => e = .returned (.bool (decide (c.g.xs = pc.e.b.xs))) ∧ w' = u) := fun u ku => bytesEq_ok c.g pc.e.b u (HCok.out.g.keep ku) (HPok.out.e.b.keep ku)
  obtain ⟨sy, hsy⟩ : ∃ sy, sy = c.says := ⟨_, rfl⟩
  obtain ⟨gv, hgv⟩ : ∃ gv, gv = c.g.v := ⟨_, rfl⟩
  obtain ⟨pv, hpv⟩ : ∃ pv, pv = pc.e.b.v := ⟨_, rfl⟩
  obtain ⟨xs, hxs⟩ : ∃ xs, xs = hcell c := ⟨_, rfl⟩
  obtain ⟨WP, hWP⟩ : ∃ WP, WP = withinP c := ⟨_, rfl⟩
  obtain ⟨RP, hRP⟩ : ∃ RP, RP = readsP c := ⟨_, rfl⟩
  obtain ⟨dq, hdq⟩ : ∃ dq, dq = decide (c.g.xs = pc.e.b.xs) := ⟨_, rfl⟩
  have HXL : Hid (xs.length = 10 ∧ xs[8]? = some (.int .i64 sy) ∧ xs[9]? = some gv) := ⟨by rw [hxs]; rfl, by rw [hxs, hsy]; rfl, by rw [hxs, hgv]; rfl⟩
  rw [← hxs] at HR1 HO1 HW HRB
  rw [← hgv, ← hpv, ← hdq] at HBE
  rw [← hWP] at HW ⊢
  rw [← hRP] at HRB ⊢
  rw [← hpv] at r4
  rw [← hdq, ← hsy]
  have HS : Hid (∀ u, Kp (fun _ => False) w u → u.cell? ⟨bc, 0, none⟩ = some (.slice (some ⟨b, o, none⟩) n cap) ∧ u.cell? ⟨bp, 0, none⟩ = some (.int .i64 (pt : Int)) ∧ u.cell? ⟨bw, 0, none⟩ = some (.int .i64 wt) ∧ u.cell? ⟨be, 0, none⟩ = some (.int .i64 (er : Int)) ∧ u.cell? ⟨br, 0, none⟩ = some (.int .i64 et) ∧ u.cell? ⟨b, o + pt * 10 + 4, none⟩ = some pv) := fun u ku => ⟨ku.cellv hbc id, ku.cellv hbp id, ku.cellv hbw id, ku.cellv hbe id, ku.cellv hbr id, ku.cellv r4 id⟩
  obtain ⟨d, hd1, hd2⟩ := dsHc
  have hi9 : (i : Int) < (n : Int) := by omega
  have hp9 : (pt : Int) < (n : Int) := by omega
  clear h hok hn hil hc hcg hpc hpg r1 r4 hsy hgv hpv hxs hWP hRP hdq hbp hbw hbe hbr hi hp
  by_cases e1 : i = pt
  · have e1' : ((i : Int) == (pt : Int)) = true := by simp; omega
    rw [if_pos e1]
    clear e1
    go_enter Try.func40, Try.ntmps40
    go_wp2_with (first       | (refine wpList_load_mid rfl 65 _ rfl b (o + i * 10) rfl xs d HR1.out hd1 hd2 (by rw [szHc, HXL.out.1]) ?_)       | (refine wpList_store_all rfl 65 _ _ rfl 10 w.heap.size (hcell hc0) xs rfl rfl (by exact Lv.new w _ _) szHc rfl HXL.out.1 HO1.out ?_; intro u1 hl1 k1; have HKu : Hid (Kp (fun _ => False) w u1) := ((Kp.refl (fun _ => False) w).alloc _).trans k1 (fun b hb e => by omega); have HLu : Hid (Lv u1 w.heap.size xs) := hl1; have c8 : u1.cell? ⟨w.heap.size, 8, none⟩ = some (.int .i64 sy) := hl1.cell (j := 8) HXL.out.2.1; obtain ⟨q1, q2, q3, q4, q5, q6⟩ := HS.out u1 HKu.out; clear hl1 k1) | (refine wpList_load_all rfl 65 _ rfl 10 w.heap.size xs rfl HLu.out dsHc szHc HXL.out.1 ?_) | (go_at_call 41; refine (HW.out _ _ _).mono ?_; rintro e9 w9 ⟨rfl, k9⟩))
    go_ret
    exact ⟨rfl, HKu.out.trans k9 (fun _ _ e => e)⟩
  · have e1' : ((i : Int) == (pt : Int)) = false := by simp; omega
    rw [if_neg e1]
    clear e1
    by_cases e2 : i = er
    · have e2' : ((i : Int) == (er : Int)) = true := by simp; omega
      rw [if_pos e2]
      clear e2
      go_enter Try.func40, Try.ntmps40
      go_wp2_with (first       | (refine wpList_load_mid rfl 65 _ rfl b (o + i * 10) rfl xs d HR1.out hd1 hd2 (by rw [szHc, HXL.out.1]) ?_)       | (refine wpList_store_all rfl 65 _ _ rfl 10 w.heap.size (hcell hc0) xs rfl rfl (by exact Lv.new w _ _) szHc rfl HXL.out.1 HO1.out ?_; intro u1 hl1 k1; have HKu : Hid (Kp (fun _ => False) w u1) := ((Kp.refl (fun _ => False) w).alloc _).trans k1 (fun b hb e => by omega); have HLu : Hid (Lv u1 w.heap.size xs) := hl1; have c8 : u1.cell? ⟨w.heap.size, 8, none⟩ = some (.int .i64 sy) := hl1.cell (j := 8) HXL.out.2.1; obtain ⟨q1, q2, q3, q4, q5, q6⟩ := HS.out u1 HKu.out; clear hl1 k1) | (refine wpList_load_all rfl 65 _ rfl 10 w.heap.size xs rfl HLu.out dsHc szHc HXL.out.1 ?_) | (go_at_call 41; refine (HW.out _ _ _).mono ?_; rintro e9 w9 ⟨rfl, k9⟩))
      go_ret
      exact ⟨rfl, HKu.out.trans k9 (fun _ _ e => e)⟩
    · have e2' : ((i : Int) == (er : Int)) = false := by simp; omega
      rw [if_neg e2]
      clear e2
      by_cases e3 : sy = 0
      · have e3' : (sy == 0) = true := by simpa using e3
        rw [if_pos e3']
        go_enter Try.func40, Try.ntmps40
        go_wp2_with (first       | (refine wpList_load_mid rfl 65 _ rfl b (o + i * 10) rfl xs d HR1.out hd1 hd2 (by rw [szHc, HXL.out.1]) ?_)       | (refine wpList_store_all rfl 65 _ _ rfl 10 w.heap.size (hcell hc0) xs rfl rfl (by exact Lv.new w _ _) szHc rfl HXL.out.1 HO1.out ?_; intro u1 hl1 k1; have HKu : Hid (Kp (fun _ => False) w u1) := ((Kp.refl (fun _ => False) w).alloc _).trans k1 (fun b hb e => by omega); have HLu : Hid (Lv u1 w.heap.size xs) := hl1; have c8 : u1.cell? ⟨w.heap.size, 8, none⟩ = some (.int .i64 sy) := hl1.cell (j := 8) HXL.out.2.1; obtain ⟨q1, q2, q3, q4, q5, q6⟩ := HS.out u1 HKu.out; clear hl1 k1) | fail)
        go_ret
        exact ⟨rfl, HKu.out⟩
      · have e3' : (sy == 0) = false := by simpa using e3
        rw [if_neg (by rw [e3']; decide)]
        clear e3
        by_cases e4 : sy = 2
        · have e4' : (sy == 2) = true := by simpa using e4
          rw [if_pos e4']
          clear e4
          go_enter Try.func40, Try.ntmps40
          go_wp2_with (first       | (refine wpList_load_mid rfl 65 _ rfl b (o + i * 10) rfl xs d HR1.out hd1 hd2 (by rw [szHc, HXL.out.1]) ?_)       | (refine wpList_store_all rfl 65 _ _ rfl 10 w.heap.size (hcell hc0) xs rfl rfl (by exact Lv.new w _ _) szHc rfl HXL.out.1 HO1.out ?_; intro u1 hl1 k1; have HKu : Hid (Kp (fun _ => False) w u1) := ((Kp.refl (fun _ => False) w).alloc _).trans k1 (fun b hb e => by omega); have HLu : Hid (Lv u1 w.heap.size xs) := hl1; have c8 : u1.cell? ⟨w.heap.size, 8, none⟩ = some (.int .i64 sy) := hl1.cell (j := 8) HXL.out.2.1; obtain ⟨q1, q2, q3, q4, q5, q6⟩ := HS.out u1 HKu.out; clear hl1 k1) | (refine wpList_load_all rfl 65 _ rfl 10 w.heap.size xs rfl HLu.out dsHc szHc HXL.out.1 ?_) | (go_at_call 41; refine (HW.out _ _ _).mono ?_; rintro e9 w9 ⟨rfl, k9⟩))
          go_ret
          exact ⟨rfl, HKu.out.trans k9 (fun _ _ e => e)⟩
        · have e4' : (sy == 2) = false := by simpa using e4
          rw [if_neg (by rw [e4']; decide)]
          clear e4
          by_cases e5 : sy = 3
          · have e5' : (sy == 3) = true := by simpa using e5
            rw [if_pos e5']
            clear e5
            cases hb1 : WP 0 wt with
            | true =>
              have HW0 : Hid (∀ u, Calls Try.prog 41 #[.agg xs.toArray, .int .i64 0, .int .i64 wt] u fun e w' => e = .returned (.bool true) ∧ Kp (fun _ => False) u w') := fun u => by rw [← hb1]; exact HW.out 0 wt u
              clear hb1
              go_enter Try.func40, Try.ntmps40
              go_wp2_with (first       | (refine wpList_load_mid rfl 65 _ rfl b (o + i * 10) rfl xs d HR1.out hd1 hd2 (by rw [szHc, HXL.out.1]) ?_)       | (refine wpList_store_all rfl 65 _ _ rfl 10 w.heap.size (hcell hc0) xs rfl rfl (by exact Lv.new w _ _) szHc rfl HXL.out.1 HO1.out ?_; intro u1 hl1 k1; have HKu : Hid (Kp (fun _ => False) w u1) := ((Kp.refl (fun _ => False) w).alloc _).trans k1 (fun b hb e => by omega); have HLu : Hid (Lv u1 w.heap.size xs) := hl1; have c8 : u1.cell? ⟨w.heap.size, 8, none⟩ = some (.int .i64 sy) := hl1.cell (j := 8) HXL.out.2.1; obtain ⟨q1, q2, q3, q4, q5, q6⟩ := HS.out u1 HKu.out; clear hl1 k1) | (refine wpList_load_all rfl 65 _ rfl 10 w.heap.size xs rfl HLu.out dsHc szHc HXL.out.1 ?_) | (go_at_call 41; refine (HW0.out _).mono ?_; rintro e9 w9 ⟨rfl, k9⟩))
              go_ret
              exact ⟨rfl, HKu.out.trans k9 (fun _ _ e => e)⟩
            | false =>
              have HW0 : Hid (∀ u, Calls Try.prog 41 #[.agg xs.toArray, .int .i64 0, .int .i64 wt] u fun e w' => e = .returned (.bool false) ∧ Kp (fun _ => False) u w') := fun u => by rw [← hb1]; exact HW.out 0 wt u
              clear hb1
              go_enter Try.func40, Try.ntmps40
              go_wp2_with (first       | (refine wpList_load_mid rfl 65 _ rfl b (o + i * 10) rfl xs d HR1.out hd1 hd2 (by rw [szHc, HXL.out.1]) ?_)       | (refine wpList_store_all rfl 65 _ _ rfl 10 w.heap.size (hcell hc0) xs rfl rfl (by exact Lv.new w _ _) szHc rfl HXL.out.1 HO1.out ?_; intro u1 hl1 k1; have HKu : Hid (Kp (fun _ => False) w u1) := ((Kp.refl (fun _ => False) w).alloc _).trans k1 (fun b hb e => by omega); have HLu : Hid (Lv u1 w.heap.size xs) := hl1; have c8 : u1.cell? ⟨w.heap.size, 8, none⟩ = some (.int .i64 sy) := hl1.cell (j := 8) HXL.out.2.1; obtain ⟨q1, q2, q3, q4, q5, q6⟩ := HS.out u1 HKu.out; clear hl1 k1) | (refine wpList_load_all rfl 65 _ rfl 10 w.heap.size xs rfl HLu.out dsHc szHc HXL.out.1 ?_) | (go_at_call 41; refine (HW0.out _).mono ?_; rintro e9 w9 ⟨rfl, k9⟩; have HL9 : Hid (Lv w9 w.heap.size xs) := HLu.out.keep k9 id; have c5 := (HS.out _ (HKu.out.trans k9 (fun _ _ e => e))).2.2.2.2.1; have HK9 : Hid (Kp (fun _ => False) w w9) := HKu.out.trans k9 (fun _ _ e => e); clear k9 HW0) | (refine wpList_ldg (by first | rfl | go_simp) 65 _ rfl w.heap.size 0 rfl xs d HL9.out.r hd1 hd2 (by rw [szHc, HXL.out.1]) ?_) | (go_at_call 41; refine (HW.out _ _ _).mono ?_; rintro e8 w8 ⟨rfl, k8⟩))
              go_ret
              exact ⟨rfl, HK9.out.trans k8 (fun _ _ e => e)⟩
          · have e5' : (sy == 3) = false := by simpa using e5
            rw [if_neg (by rw [e5']; decide)]
            clear e5
            cases RP with
            | false =>
              go_enter Try.func40, Try.ntmps40
              go_wp2_with (first       | (refine wpList_load_mid rfl 65 _ rfl b (o + i * 10) rfl xs d HR1.out hd1 hd2 (by rw [szHc, HXL.out.1]) ?_)       | (refine wpList_store_all rfl 65 _ _ rfl 10 w.heap.size (hcell hc0) xs rfl rfl (by exact Lv.new w _ _) szHc rfl HXL.out.1 HO1.out ?_; intro u1 hl1 k1; have HKu : Hid (Kp (fun _ => False) w u1) := ((Kp.refl (fun _ => False) w).alloc _).trans k1 (fun b hb e => by omega); have HLu : Hid (Lv u1 w.heap.size xs) := hl1; have c8 : u1.cell? ⟨w.heap.size, 8, none⟩ = some (.int .i64 sy) := hl1.cell (j := 8) HXL.out.2.1; obtain ⟨q1, q2, q3, q4, q5, q6⟩ := HS.out u1 HKu.out; clear hl1 k1) | (refine wpList_load_all rfl 65 _ rfl 10 w.heap.size xs rfl HLu.out dsHc szHc HXL.out.1 ?_) | (go_at_call 31; refine (HRB.out _).mono ?_; rintro e9 w9 ⟨rfl, k9⟩))
              go_ret
              exact ⟨rfl, HKu.out.trans k9 (fun _ _ e => e)⟩
            | true =>
              rw [if_pos rfl]
              go_enter Try.func40, Try.ntmps40
              go_wp2_with (first       | (refine wpList_load_mid rfl 65 _ rfl b (o + i * 10) rfl xs d HR1.out hd1 hd2 (by rw [szHc, HXL.out.1]) ?_)       | (refine wpList_store_all rfl 65 _ _ rfl 10 w.heap.size (hcell hc0) xs rfl rfl (by exact Lv.new w _ _) szHc rfl HXL.out.1 HO1.out ?_; intro u1 hl1 k1; have HKu : Hid (Kp (fun _ => False) w u1) := ((Kp.refl (fun _ => False) w).alloc _).trans k1 (fun b hb e => by omega); have HLu : Hid (Lv u1 w.heap.size xs) := hl1; have c8 : u1.cell? ⟨w.heap.size, 8, none⟩ = some (.int .i64 sy) := hl1.cell (j := 8) HXL.out.2.1; obtain ⟨q1, q2, q3, q4, q5, q6⟩ := HS.out u1 HKu.out; clear hl1 k1) | (refine wpList_load_all rfl 65 _ rfl 10 w.heap.size xs rfl HLu.out dsHc szHc HXL.out.1 ?_) | (go_at_call 31; refine (HRB.out _).mono ?_; rintro e9 w9 ⟨rfl, k9⟩; have HL9 : Hid (Lv w9 w.heap.size xs) := HLu.out.keep k9 id; have HK9 : Hid (Kp (fun _ => False) w w9) := HKu.out.trans k9 (fun _ _ e => e); clear k9))
              have HSS : Hid (∀ u, Kp (fun _ => False) w9 u → ((loadVar 65 ⟨w.heap.size, 0, none⟩).run Try.prog u = .ok (.agg xs.toArray) u ∧ u.cell? ⟨w.heap.size, 9, none⟩ = some gv ∧ u.cell? ⟨bw, 0, none⟩ = some (.int .i64 wt) ∧ u.cell? ⟨br, 0, none⟩ = some (.int .i64 et) ∧ u.cell? ⟨bc, 0, none⟩ = some (.slice (some ⟨b, o, none⟩) n cap) ∧ u.cell? ⟨bp, 0, none⟩ = some (.int .i64 (pt : Int)) ∧ u.cell? ⟨b, o + pt * 10 + 4, none⟩ = some pv)) := fun u ku => by
                have hl := HL9.out.keep ku id
                have hs := HS.out u (HK9.out.trans ku (fun _ _ e => e))
                exact ⟨hl.load dsHc szHc HXL.out.1, hl.cell (j := 9) HXL.out.2.2, hs.2.2.1, hs.2.2.2.2.1, hs.1, hs.2.1, hs.2.2.2.2.2⟩
              have kd : Kp (fun _ => False) w9 w9.drew := (Kp.refl _ _).drew
              cases hb1 : WP wt et with
              | true =>
                refine oa_region ⟨by kernel_rfl, by kernel_rfl, by kernel_rfl, by kernel_rfl, by kernel_rfl, by kernel_rfl, by kernel_rfl, by kernel_rfl, by kernel_rfl, by kernel_rfl, by kernel_rfl, by kernel_rfl, by kernel_rfl, by kernel_rfl, by kernel_rfl, by kernel_rfl, by kernel_rfl, by kernel_rfl, by kernel_rfl, by kernel_rfl, by kernel_rfl, by kernel_rfl, by kernel_rfl, by kernel_rfl⟩ w.heap.size bw br bc bp b o n cap pt hp9 wt et xs.toArray gv pv dq (fun d _ _ _ _ h => by cases d <;> exact h) (by rfl) (by rfl) (by rfl) (by rfl) (by rfl) (by rfl) (HSS.out _ kd) (fun z => Kp (fun _ => False) w9 z) ((HW.out wt et w9.drew).mono ?_) ?_
                · rintro e8 w8 ⟨rfl, k8⟩
                  have k88 := kd.trans k8 (fun _ _ e => e)
                  refine ⟨by rw [hb1], HSS.out _ k88, (HBE.out w8 (HK9.out.trans k88 (fun _ _ e => e))).mono ?_⟩
                  rintro e7 w7 ⟨rfl, hw7⟩
                  subst hw7
                  exact ⟨rfl, HSS.out _ k88, k88⟩
                intro w8 k8
                have HB : Hid (WP wt et = true) := hb1
                clear hb1 kd
                simp only [Act.put, List.setIfInBounds_toArray, List.set_cons_succ, List.set_cons_zero]
                go_wp2
                go_ret
                exact ⟨by rw [HB.out, Bool.true_and]; rfl, HK9.out.trans k8 (fun _ _ e => e)⟩
              | false =>
                refine ob_region ⟨by kernel_rfl, by kernel_rfl, by kernel_rfl, by kernel_rfl, by kernel_rfl, by kernel_rfl, by kernel_rfl, by kernel_rfl, by kernel_rfl, by kernel_rfl, by kernel_rfl, by kernel_rfl, by kernel_rfl, by kernel_rfl, by kernel_rfl, by kernel_rfl, by kernel_rfl, by kernel_rfl, by kernel_rfl, by kernel_rfl, by kernel_rfl, by kernel_rfl, by kernel_rfl, by kernel_rfl⟩ w.heap.size bw br bc bp b o n cap pt hp9 wt et xs.toArray gv pv dq (fun d _ _ _ _ h => by cases d <;> exact h) (by rfl) (by rfl) (by rfl) (by rfl) (by rfl) (by rfl) (HSS.out _ kd) (fun z => Kp (fun _ => False) w9 z) ((HW.out wt et w9.drew).mono ?_) ?_
                · rintro e8 w8 ⟨rfl, k8⟩
                  have k88 := kd.trans k8 (fun _ _ e => e)
                  exact ⟨by rw [hb1], HSS.out _ k88, k88⟩
                intro w8 k8
                have HB : Hid (WP wt et = false) := hb1
                clear hb1 kd
                simp only [Act.put, List.setIfInBounds_toArray, List.set_cons_succ, List.set_cons_zero]
                go_wp2
                go_ret
                exact ⟨by rw [HB.out, Bool.false_and]; rfl, HK9.out.trans k8 (fun _ _ e => e)⟩
end Go.Proofs.Ytbbgplnenbkfeaa
