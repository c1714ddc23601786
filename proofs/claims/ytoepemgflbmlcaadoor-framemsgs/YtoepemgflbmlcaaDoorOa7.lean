/- The document's MayMsg (laid by scripts/mkoa7.py). -/
import Derived.Test.YtoepemgflbmlcaaDoorOt
import Derived.Test.YtoepemgflbmlcaaDoorNn
namespace Go.Proofs.YtoepemgflbmlcaaDoor
set_option linter.unusedVariables false
set_option linter.unusedSimpArgs false
open Go.RowKit Go.Deep

theorem upTo_false {most : Int} {zs : List Int} {k : Nat} {z : Int} (h : zs[k]? = some z) (hz : ¬ (0 ≤ z ∧ z ≤ most)) : upTo most zs = false := by
  cases q : upTo most zs with
  | false => rfl
  | true => exact absurd (upTo_at.1 q k z h) hz
theorem fineB_false {z : Int} (h : fineB z = false) : ¬ (0 ≤ z ∧ z ≤ 1152921504606846976) := fun e => by
  unfold fineB at h
  rw [decide_eq_true e] at h
  cases h
theorem fineB_true {z : Int} (h : fineB z = true) : 0 ≤ z ∧ z ≤ 1152921504606846976 := by
  unfold fineB at h
  exact of_decide_eq_true h

set_option maxRecDepth 100000 in
set_option maxHeartbeats 12800000 in
theorem xmayMsg_at (s : Ms0) (p pv pb : Option Addr) (n1 cp n2 cv n3 cb : Nat) (C : Bool) (Z : Nat → Prop) (l : List (Vo × Value)) (w : World) (h3 : n3 ≤ 140737488355328) (hn : n2 = l.length) (h2 : n2 * 136 ≤ 140737488355328) (hv : Fl w Z pv (vflat l)) (hvn : Vn w Z l) (hg : ∀ x ∈ l, goodC x.1.c)
    (hC : ∀ u, Kp (fun _ => False) w u → Calls Tryd.prog 25 #[.agg (cmdA s.c (.slice p n1 cp))] u fun e w' => e = .returned (.bool C) ∧ Kp (fun _ => False) u w') :
    Calls Tryd.prog 22 #[.agg (msgA s (.slice p n1 cp) (.slice pv n2 cv) (.slice pb n3 cb))] w fun e w' => e = .returned (.bool (decide (n2 ≤ 1000) && (decide (n3 ≤ 2000) && (decide (1 ≤ s.kind) && (decide (s.kind ≤ 15) && (upTo 15 [s.src, s.dst] && (upTo 1152921504606846976 [s.ballot, s.slot, s.blob, s.index, s.epoch, s.id] && (C && mayV (l.map (·.1)))))))))) ∧ Kp (fun _ => False) w w' := by
  have HC : Hid (∀ u, Kp (fun _ => False) w u → Calls Tryd.prog 25 #[.agg (cmdA s.c (.slice p n1 cp))] u fun e w' => e = .returned (.bool C) ∧ Kp (fun _ => False) u w') := hC
  have HF : Hid (Fl w Z pv (vflat l)) := hv
  have HV : Hid (Vn w Z l) := hvn
  have HG : Hid (∀ x ∈ l, goodC x.1.c) := hg
  have HN : Hid (n2 = l.length ∧ n2 * 136 ≤ 140737488355328) := ⟨hn, h2⟩
  have hn3 : (n3 : Int) ≤ 140737488355328 := by omega
  have hn2 : (n2 : Int) ≤ 1034834473200 := by omega
  have HK : Hid (Kp (fun _ => False) w (w.alloc (.cells (msgA s (.slice p n1 cp) (.slice pv n2 cv) (.slice pb n3 cb)) 40))) := (Kp.refl _ _).alloc _
  have HL : Hid (Lv (w.alloc (.cells (msgA s (.slice p n1 cp) (.slice pv n2 cv) (.slice pb n3 cb)) 40)) w.heap.size (msgA s (.slice p n1 cp) (.slice pv n2 cv) (.slice pb n3 cb)).toList) := Lv.new w _ _
  obtain ⟨dV, hdV, hdVr⟩ := dsVote
  obtain ⟨dC, hdC, hdCr⟩ := dsCmd
  obtain ⟨B, hB⟩ : ∃ b, b = (decide (n2 ≤ 1000) && (decide (n3 ≤ 2000) && (decide (1 ≤ s.kind) && (decide (s.kind ≤ 15) && (upTo 15 [s.src, s.dst] && (upTo 1152921504606846976 [s.ballot, s.slot, s.blob, s.index, s.epoch, s.id] && (C && mayV (l.map (·.1))))))))) := ⟨_, rfl⟩
  rw [← hB]
  have HB : Hid (B = (decide (n2 ≤ 1000) && (decide (n3 ≤ 2000) && (decide (1 ≤ s.kind) && (decide (s.kind ≤ 15) && (upTo 15 [s.src, s.dst] && (upTo 1152921504606846976 [s.ballot, s.slot, s.blob, s.index, s.epoch, s.id] && (C && mayV (l.map (·.1)))))))))) := hB
  have HFi : Hid (∀ (z : Int) (u : World), Calls _ _ _ u _) := fun z u => rfine_ok z u
  clear hC h3 h2 hB hv hvn hg hn
  go_enter Tryd.func22, Tryd.ntmps22
  go_upto_region 1 with fail
  obtain ⟨u0, hu0⟩ : ∃ x, x = w.alloc (.cells (msgA s (.slice p n1 cp) (.slice pv n2 cv) (.slice pb n3 cb)) 40) := ⟨_, rfl⟩
  have hu0' := hu0.symm
  simp only [msgA] at hu0'
  rw [hu0']
  rw [← hu0] at HK HL
  clear hu0 hu0'
  obtain ⟨g, hg⟩ : ∃ x, x = w.heap.size := ⟨_, rfl⟩
  rw [← hg] at HL ⊢
  clear hg
  have c3 : u0.cell? ⟨g, 3, none⟩ = some (.int .i64 s.ballot) := HL.out.cell (j := 3) rfl
  have c4 : u0.cell? ⟨g, 4, none⟩ = some (.int .i64 s.slot) := HL.out.cell (j := 4) rfl
  have c5 : u0.cell? ⟨g, 5, none⟩ = some (.int .i64 s.blob) := HL.out.cell (j := 5) rfl
  have c6 : u0.cell? ⟨g, 6, none⟩ = some (.int .i64 s.index) := HL.out.cell (j := 6) rfl
  have c7 : u0.cell? ⟨g, 7, none⟩ = some (.int .i64 s.epoch) := HL.out.cell (j := 7) rfl
  have c8 : u0.cell? ⟨g, 8, none⟩ = some (.int .i64 s.id) := HL.out.cell (j := 8) rfl
  have HF6 : Hid (Fl (u0.alloc (.cells #[.int .i64 s.ballot, .int .i64 s.slot, .int .i64 s.blob, .int .i64 s.index, .int .i64 s.epoch, .int .i64 s.id] 3)) (fun _ => True) (some ⟨u0.heap.size, 0, none⟩) ([s.ballot, s.slot, s.blob, s.index, s.epoch, s.id].map encI)) := fun j v hj => ⟨_, _, rfl, trivial, by rw [Nat.zero_add]; exact (Lv.new u0 #[.int .i64 s.ballot, .int .i64 s.slot, .int .i64 s.blob, .int .i64 s.index, .int .i64 s.epoch, .int .i64 s.id] 3).cell hj⟩
  have HK6 : Hid (Kp (fun _ => False) u0 (u0.alloc (.cells #[.int .i64 s.ballot, .int .i64 s.slot, .int .i64 s.blob, .int .i64 s.index, .int .i64 s.epoch, .int .i64 s.id] 3))) := (Kp.refl _ _).alloc _
  go_wp2_with fail
  clear c3 c4 c5 c6 c7 c8
  obtain ⟨u1, hu1⟩ : ∃ x, x = u0.alloc (.cells #[.int .i64 s.ballot, .int .i64 s.slot, .int .i64 s.blob, .int .i64 s.index, .int .i64 s.epoch, .int .i64 s.id] 3) := ⟨_, rfl⟩
  rw [← hu1] at HF6 HK6 ⊢
  clear hu1
  replace HK : Hid (Kp (fun _ => False) w u1) := HK.out.trans HK6.out (fun _ _ e => e)
  replace HL : Hid (Lv u1 g (msgA s (.slice p n1 cp) (.slice pv n2 cv) (.slice pb n3 cb)).toList) := HL.out.keep HK6.out id
  clear HK6
  obtain ⟨b6, hb6⟩ : ∃ x, x = u0.heap.size := ⟨_, rfl⟩
  rw [← hb6] at HF6 ⊢
  clear hb6
  obtain ⟨zs, hzs⟩ : ∃ x : List Int, x = [s.ballot, s.slot, s.blob, s.index, s.epoch, s.id] := ⟨_, rfl⟩
  have HZs : Hid (zs = [s.ballot, s.slot, s.blob, s.index, s.epoch, s.id] ∧ zs.length = 6) := ⟨hzs, by rw [hzs]; rfl⟩
  rw [← hzs] at HF6
  clear hzs
  go_loopg [21] 6 (fun gk iv wz => ∃ k : Nat, k ≤ 6 ∧ gk = 6 - k ∧ iv = .int .i64 k ∧ u1 = wz ∧ Hid (∀ (i : Nat) (z : Int), i < k → zs[i]? = some z → 0 ≤ z ∧ z ≤ 1152921504606846976))
  case atStart => exact ⟨0, Nat.zero_le _, rfl, rfl, rfl, fun i z hi => absurd hi (Nat.not_lt_zero _)⟩
  case round =>
    obtain ⟨k, hk, rfl, rfl, rfl, HT⟩ := hrel
    by_cases hlt : (k : Int) < 6
    · have hkl : k < zs.length := by have := HZs.out; omega
      obtain ⟨z, hz⟩ : ∃ z, zs[k]? = some z := ⟨_, List.getElem?_eq_getElem hkl⟩
      obtain ⟨b, o, hbo, _, hc⟩ := HF6.out k (encI z) (by rw [List.getElem?_map, hz]; rfl)
      injection hbo with hbo
      injection hbo with hb1 ho1
      subst hb1 ho1
      have hc' : u1.cell? ⟨b6, k, none⟩ = some (.int .i64 z) := by rw [Nat.zero_add] at hc; exact hc
      have HZ : Hid (zs[k]? = some z) := hz
      have HKi : Hid (wrap64 ((k : Int) + 1) = ((k + 1 : Nat) : Int)) := (by show _ = _; unfold wrap64; omega)
      clear hc hz hkl
      go_wp2_with fail
      refine (HFi.out z u1).mono ?_
      rintro e9 w9 ⟨rfl, hw9⟩
      have hw8 := hw9.symm
      subst hw8
      clear hw9
      cases hfz : fineB z with
      | false =>
        have HRf : Hid (B = false) := by
          have h1 := upTo_false HZ.out (fineB_false hfz)
          rw [HZs.out.1] at h1
          show _ = _
          rw [HB.out, h1]
          simp
        clear hfz
        go_wp2_with fail
        go_ret
        exact ⟨by rw [HRf.out]; rfl, HK.out⟩
      | true =>
        have HOk : Hid (0 ≤ z ∧ z ≤ 1152921504606846976) := fineB_true hfz
        clear hfz
        go_wp2_with fail
        go_roundg (6 - (k + 1))
        case rel =>
          refine ⟨k + 1, by omega, rfl, by first | rw [HKi.out] | rfl | go_num, rfl, fun i y hi hy => ?_⟩
          by_cases e : i = k
          · subst e
            rw [HZ.out] at hy
            cases hy
            exact HOk.out
          · exact HT.out i y (by omega) hy
        case measure => omega
    · have HU6 : Hid (upTo 1152921504606846976 [s.ballot, s.slot, s.blob, s.index, s.epoch, s.id] = true) := by
        show _ = _
        rw [← HZs.out.1]
        exact upTo_at.2 (fun i z hz => HT.out i z (by have := HZs.out; have := (List.getElem?_eq_some_iff.1 hz).1; omega) hz)
      have hcv : u1.cell? ⟨g, 22, none⟩ = some (.slice pv n2 cv) := HL.out.cell (j := 22) rfl
      clear HT
      go_wp2_with fail
      go_loopg [32] n2 (fun gk iv wz => ∃ k : Nat, k ≤ n2 ∧ gk = n2 - k ∧ iv = .int .i64 k ∧ Hid (Kp (fun _ => False) u1 wz ∧ ∀ (i : Nat) (x : Vo × Value), i < k → l[i]? = some x → mayVo x.1 = true))
      case atStart => exact ⟨0, Nat.zero_le _, rfl, rfl, Kp.refl _ _, fun i x hi => absurd hi (Nat.not_lt_zero _)⟩
      case round =>
        obtain ⟨j, hj, rfl, rfl, HR⟩ := hrel
        have HKr : Hid (Kp (fun _ => False) w wr) := HK.out.trans HR.out.1 (fun _ _ e => e)
        by_cases hlt2 : (j : Int) < (n2 : Int)
        · have hk1 : j < l.length := by have := HN.out; omega
          obtain ⟨b1, o1, rfl, r1⟩ := fl_range (HF.out.keep HKr.out (fun _ _ => id)) hk1
          obtain ⟨q1, d1, en1, f1, hb1⟩ := (HV.out.keep HKr.out (fun _ _ => id)) l[j] (List.getElem_mem hk1)
          have hgk := HG.out l[j] (List.getElem_mem hk1)
          rw [en1] at r1
          obtain ⟨v, hvv⟩ : ∃ v, v = l[j].1 := ⟨_, rfl⟩
          rw [← hvv] at r1 f1 hb1 hgk
          have HAt : Hid (∃ x, l[j]? = some x ∧ x.1 = v) := ⟨l[j], List.getElem?_eq_getElem hk1, hvv.symm⟩
          obtain ⟨nl, hnl⟩ : ∃ nl, nl = v.nodes.length := ⟨_, rfl⟩
          rw [← hnl] at r1
          have HMay : Hid (∀ u, Kp (fun _ => False) wr u → Calls Tryd.prog 25 #[.agg (cmdA v.c (.slice q1 nl d1))] u fun e w' => e = .returned (.bool (mayC v.c v.nodes)) ∧ Kp (fun _ => False) u w') := fun u ku => rmayCmd_ok v.c Z q1 nl d1 v.nodes u (f1.keep ku (fun _ _ => id)) hnl (by omega) hgk.2.2
          have HR1 : Hid (wr.rangeAt b1 (o1 + j * 14) (vcell v (.slice q1 nl d1))) := r1
          have HO1 : Hid ((vcell v (.slice q1 nl d1)).toArray.all (·.oneCell') = true) := vcell_one v rfl
          have HKi : Hid (wrap64 ((j : Int) + 1) = ((j + 1 : Nat) : Int)) := (by have := HN.out; show _ = _; unfold wrap64; omega)
          have HNo : Hid (mayVo v = false → B = false) := fun hno => by
            obtain ⟨x, hx, hxv⟩ := HAt.out
            have h1 : mayV (l.map (·.1)) = false := by
              cases hq : mayV (l.map (·.1)) with
              | false => rfl
              | true =>
                have := List.all_eq_true.1 hq v (by rw [← hxv]; exact List.mem_map.2 ⟨x, List.mem_of_getElem? hx, rfl⟩)
                rw [hno] at this
                cases this
            rw [HB.out, h1]
            simp
          clear r1 f1 en1 hvv hnl hb1 hk1 hgk
          go_upto_region 10 with (first
            | (refine wpList_load_mid rfl 72 _ rfl b1 (o1 + j * 14) rfl _ dV HR1.out hdV hdVr szVote ?_)
            | (refine wpList_store_all rfl 72 _ _ rfl 14 wr.heap.size zeroV (vcell v (.slice q1 nl d1)) rfl rfl (by exact Lv.new wr _ _) szVote rfl rfl HO1.out ?_; intro u2 hl2 k2))
          have ku2 : Kp (fun _ => False) wr u2 := ((Kp.refl (fun _ => False) wr).alloc (.cells zeroV.toArray 72)).trans k2 (fun b hb e => by omega)
          obtain ⟨gv, hgv⟩ : ∃ x, x = wr.heap.size := ⟨_, rfl⟩
          rw [← hgv] at hl2 ⊢
          have HK2 : Hid (Kp (fun _ => False) wr u2) := ku2
          have HL2 : Hid (Lv u2 gv (vcell v (.slice q1 nl d1))) := hl2
          have c0 : u2.cell? ⟨gv, 0, none⟩ = some (.int .i64 v.slot) := hl2.cell (j := 0) rfl
          have c1 : u2.cell? ⟨gv, 1, none⟩ = some (.int .i64 v.ballot) := hl2.cell (j := 1) rfl
          clear ku2 hl2 k2 hgv HR1
          go_wp2_with fail
          refine (HFi.out v.slot u2).mono ?_
          rintro e9 w9 ⟨rfl, hw9⟩
          have hw8 := hw9.symm
          subst hw8
          clear hw9
          cases hfs : fineB v.slot with
          | false =>
            have HRf : Hid (B = false) := HNo.out (by unfold mayVo; rw [upTo_false (k := 0) rfl (fineB_false hfs)]; rfl)
            clear hfs
            go_wp2_with fail
            go_ret
            exact ⟨by rw [HRf.out]; rfl, HKr.out.trans HK2.out (fun _ _ e => e)⟩
          | true =>
          have HO1b : Hid (0 ≤ v.slot ∧ v.slot ≤ 1152921504606846976) := fineB_true hfs
          clear hfs
          go_wp2_with fail
          refine (HFi.out v.ballot u2).mono ?_
          rintro e9 w9 ⟨rfl, hw9⟩
          have hw8 := hw9.symm
          subst hw8
          clear hw9
          cases hfs : fineB v.ballot with
          | false =>
            have HRf : Hid (B = false) := HNo.out (by unfold mayVo; rw [upTo_false (k := 1) rfl (fineB_false hfs)]; rfl)
            clear hfs
            go_wp2_with fail
            go_ret
            exact ⟨by rw [HRf.out]; rfl, HKr.out.trans HK2.out (fun _ _ e => e)⟩
          | true =>
          have HUv : Hid (upTo 1152921504606846976 [v.slot, v.ballot] = true) := upTo_at.2 (fun i z hz => by
            have h2 := fineB_true hfs
            match i, hz with
            | 0, hz => cases hz; exact HO1b.out
            | 1, hz => cases hz; exact h2)
          clear hfs c0 c1
          go_wp2_with (refine wpList_ldm (by first | rfl | go_simp) 27 _ rfl gv 2 rfl (cmdA v.c (.slice q1 nl d1)).toList dC (HL2.out.range 2 12) hdC hdCr szCmd ?_)
          refine (HMay.out u2 HK2.out).mono ?_
          rintro e9 u4 ⟨rfl, k4⟩
          have HK4 : Hid (Kp (fun _ => False) wr u4) := HK2.out.trans k4 (fun _ _ e => e)
          clear k4
          cases hM : mayC v.c v.nodes with
          | false =>
            have HRf : Hid (B = false) := HNo.out (by unfold mayVo; rw [hM, HUv.out]; rfl)
            clear hM
            go_wp2_with fail
            go_ret
            exact ⟨by rw [HRf.out]; rfl, HKr.out.trans HK4.out (fun _ _ e => e)⟩
          | true =>
            have HRt : Hid (mayVo v = true) := by show _ = _; unfold mayVo; rw [hM, HUv.out]; rfl
            clear hM
            go_wp2_with fail
            go_roundg (n2 - (j + 1))
            case rel =>
              refine ⟨j + 1, by omega, rfl, by first | rw [HKi.out] | rfl | go_num, HR.out.1.trans HK4.out (fun _ _ e => e), fun i x hi hx => ?_⟩
              by_cases e : i = j
              · subst e
                obtain ⟨y, hy, hyv⟩ := HAt.out
                rw [hy] at hx
                cases hx
                rw [hyv]
                exact HRt.out
              · exact HR.out.2 i x (by omega) hx
            case measure => omega
        · have HVt : Hid (mayV (l.map (·.1)) = true) := List.all_eq_true.2 (fun v hv => by
            obtain ⟨x, hx, rfl⟩ := List.mem_map.1 hv
            obtain ⟨i, hi⟩ := List.getElem?_of_mem hx
            have := (List.getElem?_eq_some_iff.1 hi).1
            exact HR.out.2 i x (by have := HN.out; omega) hi)
          have HLr : Hid (Lv wr g (msgA s (.slice p n1 cp) (.slice pv n2 cv) (.slice pb n3 cb)).toList) := HL.out.keep HR.out.1 id
          have c0 : wr.cell? ⟨g, 0, none⟩ = some (.int .i64 s.kind) := HLr.out.cell (j := 0) rfl
          have c1 : wr.cell? ⟨g, 1, none⟩ = some (.int .i64 s.src) := HLr.out.cell (j := 1) rfl
          have c2 : wr.cell? ⟨g, 2, none⟩ = some (.int .i64 s.dst) := HLr.out.cell (j := 2) rfl
          clear HR
          by_cases t1 : 1 ≤ s.kind
          case neg =>
            have HRf : Hid (B = false) := by show _ = _; rw [HB.out, decide_eq_false t1]; simp
            go_wp2_with fail
            go_ret
            exact ⟨by rw [HRf.out]; rfl, HKr.out⟩
          by_cases t2 : s.kind ≤ 15
          case neg =>
            have HRf : Hid (B = false) := by show _ = _; rw [HB.out, decide_eq_false t2]; simp
            go_wp2_with fail
            go_ret
            exact ⟨by rw [HRf.out]; rfl, HKr.out⟩
          by_cases t3 : 0 ≤ s.src
          case neg =>
            have HRf : Hid (B = false) := by show _ = _; rw [HB.out, upTo_false (most := 15) (zs := [s.src, s.dst]) (k := 0) rfl (fun e => t3 e.1)]; simp
            go_wp2_with fail
            go_ret
            exact ⟨by rw [HRf.out]; rfl, HKr.out⟩
          by_cases t4 : s.src ≤ 15
          case neg =>
            have HRf : Hid (B = false) := by show _ = _; rw [HB.out, upTo_false (most := 15) (zs := [s.src, s.dst]) (k := 0) rfl (fun e => t4 e.2)]; simp
            go_wp2_with fail
            go_ret
            exact ⟨by rw [HRf.out]; rfl, HKr.out⟩
          by_cases t5 : 0 ≤ s.dst
          case neg =>
            have HRf : Hid (B = false) := by show _ = _; rw [HB.out, upTo_false (most := 15) (zs := [s.src, s.dst]) (k := 1) rfl (fun e => t5 e.1)]; simp
            go_wp2_with fail
            go_ret
            exact ⟨by rw [HRf.out]; rfl, HKr.out⟩
          by_cases t6 : s.dst ≤ 15
          case neg =>
            have HRf : Hid (B = false) := by show _ = _; rw [HB.out, upTo_false (most := 15) (zs := [s.src, s.dst]) (k := 1) rfl (fun e => t6 e.2)]; simp
            go_wp2_with fail
            go_ret
            exact ⟨by rw [HRf.out]; rfl, HKr.out⟩
          have HRe : Hid (B = (decide (n2 ≤ 1000) && (decide (n3 ≤ 2000) && C))) := by
            show _ = _
            rw [HB.out, decide_eq_true t1, decide_eq_true t2, HU6.out, HVt.out, show upTo 15 [s.src, s.dst] = true from upTo_at.2 (fun i z hz => by
              match i, hz with
              | 0, hz => cases hz; exact ⟨t3, t4⟩
              | 1, hz => cases hz; exact ⟨t5, t6⟩)]
            cases C <;> simp
          go_wp2_with (refine wpList_ldm (by first | rfl | go_simp) 27 _ rfl g 10 rfl (cmdA s.c (.slice p n1 cp)).toList dC (HLr.out.range 10 12) hdC hdCr szCmd ?_)
          refine (HC.out wr HKr.out).mono ?_
          rintro e9 u5 ⟨rfl, k5⟩
          have HK5 : Hid (Kp (fun _ => False) w u5) := HKr.out.trans k5 (fun _ _ e => e)
          have HL5 : Hid (Lv u5 g (msgA s (.slice p n1 cp) (.slice pv n2 cv) (.slice pb n3 cb)).toList) := HLr.out.keep k5 id
          clear k5 c0 c1 c2 t1 t2 t3 t4 t5 t6
          cases C with
          | false =>
            have HRf : Hid (B = false) := by show _ = _; rw [HRe.out]; simp
            go_wp2_with fail
            go_ret
            exact ⟨by rw [HRf.out]; rfl, HK5.out⟩
          | true =>
            have d22 : u5.cell? ⟨g, 22, none⟩ = some (.slice pv n2 cv) := HL5.out.cell (j := 22) rfl
            have d23 : u5.cell? ⟨g, 23, none⟩ = some (.slice pb n3 cb) := HL5.out.cell (j := 23) rfl
            by_cases t7 : n2 ≤ 1000
            case neg =>
              have t7i : ¬ (n2 : Int) ≤ 1000 := by omega
              have HRf : Hid (B = false) := by show _ = _; rw [HRe.out, decide_eq_false t7]; rfl
              clear t7
              go_wp2_with fail
              go_ret
              exact ⟨by rw [HRf.out]; rfl, HK5.out⟩
            have t7i : (n2 : Int) ≤ 1000 := by omega
            by_cases t8 : n3 ≤ 2000
            case neg =>
              have t8i : ¬ (n3 : Int) ≤ 2000 := by omega
              have HRf : Hid (B = false) := by show _ = _; rw [HRe.out, decide_eq_true t7, decide_eq_false t8]; rfl
              clear t7 t8
              go_wp2_with fail
              go_ret
              exact ⟨by rw [HRf.out]; first | rfl | (show Ending.returned (.bool (decide ((n3 : Int) ≤ 2000))) = _; rw [decide_eq_false (by omega)]), HK5.out⟩
            have t8i : (n3 : Int) ≤ 2000 := by omega
            have HRf : Hid (B = true) := by show _ = _; rw [HRe.out, decide_eq_true t7, decide_eq_true t8]; rfl
            clear t7 t8
            go_wp2_with fail
            go_ret
            exact ⟨by rw [HRf.out]; rfl, HK5.out⟩
theorem xmayMsg_ok (Z : Nat → Prop) (μ : Ms) (v : Value) (w : World) (h : Mr w Z μ v) (hg : goodM μ) : Calls Tryd.prog 22 #[v] w fun e w' => e = .returned (.bool (mayM μ)) ∧ Kp (fun _ => False) w w' := by
  obtain ⟨p, cp, pv, cv, l, pb, cb, rfl, h1, h2, h3, h4, h5, h6, h7, h8, h9⟩ := h
  have hgl : ∀ x ∈ l, goodC x.1.c := fun x hx => hg.2 x.1 (by rw [← h3]; exact List.mem_map.2 ⟨x, hx, rfl⟩)
  have := xmayMsg_at μ.s p pv pb μ.nodes.length cp l.length cv μ.bytes.length cb (mayC μ.s.c μ.nodes) Z l w h9 rfl h6 h4 h5 hgl (fun u ku => rmayCmd_ok μ.s.c Z p μ.nodes.length cp μ.nodes u (h1.keep ku (fun _ _ => id)) rfl (by omega) hg.1.2.2)
  have hl : l.length = μ.votes.length := by rw [← h3, List.length_map]
  rw [h3] at this
  rw [hl] at this ⊢
  exact this
end Go.Proofs.YtoepemgflbmlcaaDoor
