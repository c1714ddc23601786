/- The walk of the law LeadBinds. -/
import Derived.Test.YtjpdbhkggcojaaaLbj
namespace Go.Proofs.Ytjpdbhkggcojaaa
set_option linter.unusedVariables false
open Go.RowKit Go.Deep Go.Maps

set_option maxRecDepth 100000 in
set_option maxHeartbeats 64000000 in
theorem leadBinds_walk (v : Value) (L : Nat) (w : World) (hv : Dls w v L) :
    Calls Try.prog 5 #[v] w fun e w' => e = .returned (.bool true) ∧ Kp (fun _ => False) w w' := by
  obtain ⟨p, c, D, rfl, hc, hL, hD⟩ := hv
  have HD : Hid (∀ i, i < L → ∃ nv vv, Dat w p i (D i) nv vv) := hD
  have hL9 : (L : Int) ≤ 17592186044416 := by omega
  have HLc : Hid (L ≤ c) := hc
  have HN : Hid (Calls _ _ _ w _) := tnew_ok 9 1 w (by omega) (by omega)
  obtain ⟨ti, tz, hi1, hi2, hi3, hi4, hi5⟩ := infoVote
  clear hD hc hL
  have hmm : ∀ (t : TypeId) (w : World), (Instr.makeMap t none).run Try.prog w = .ok (.map (some w.heap.size)) (w.alloc (.map #[] 0)) := fun _ _ => rfl
  go_enter Try.func5, Try.ntmps5
  go_wp2_with fail
  refine HN.out.mono ?_
  rintro e w1 ⟨t, mb, mp, rfl, k1, ht, hb, hp, hT1⟩
  have HT1 : Hid (Tr w1 t mb mp 0 0 0 0 9 1 1 (List.replicate 16 false) (fun _ => none) (fun _ => none)) := hT1
  have HB : Hid (w.heap.size ≤ t ∧ w.heap.size ≤ mb ∧ w.heap.size ≤ mp) := ⟨ht, hb, hp⟩
  clear hT1 ht hb hp HN
  go_wp2_with fail
  obtain ⟨w4, hw4⟩ : ∃ x, x = w1.alloc (.map #[] 0) := ⟨_, rfl⟩
  rw [← hw4]
  have k4 : Kp (fun _ => False) w1 w4 := by rw [hw4]; exact (Kp.refl _ _).alloc _
  have HM4 : Hid (Mm w4 w1.heap.size 0 0 (bb (fun _ => none))) := by rw [hw4]; exact Mm.made w1
  have HT4 : Hid (Tr w4 t mb mp 0 0 0 0 9 1 1 (List.replicate 16 false) (fun _ => none) (fun _ => none)) := HT1.out.keep k4
  have HK4 : Hid (Kp (fun b => w.heap.size ≤ b) w w4) := (k1.trans k4 (fun _ _ e => e)).mono (fun _ _ e => e.elim)
  have HMb : Hid (w.heap.size ≤ w1.heap.size ∧ t ≠ w1.heap.size ∧ mb ≠ w1.heap.size ∧ mp ≠ w1.heap.size) := by
    have := HT1.out.lt
    exact ⟨k1.size, by go_light; omega, by go_light; omega, by go_light; omega⟩
  obtain ⟨m, hm⟩ : ∃ m, m = w1.heap.size := ⟨_, rfl⟩
  rw [← hm] at HM4 HMb ⊢
  clear hw4 hm HT1 k1 k4
  go_loopg [32] L (fun gk iv wr => ∃ j : Nat, j ≤ L ∧ j ≤ 17 ∧ gk = L - j ∧ iv = .int .i64 j ∧ Hid (Kp (fun b => w.heap.size ≤ b) w wr) ∧ Hid (Sb wr t mb mp m j D))
  case atStart => exact ⟨0, by go_light; omega, by go_light; omega, rfl, rfl, HK4, sb_start HT4.out HM4.out⟩
  case round =>
    obtain ⟨j, hj, hj17, rfl, rfl, HKr, HSb⟩ := hrel
    obtain ⟨wr1, rfl⟩ : ∃ x, x = wr := ⟨_, rfl⟩
    clear HT4 HM4 HK4
    by_cases hend : (j : Int) < (L : Int) ∧ (j : Int) ≤ 16
    · obtain ⟨hlt, h16⟩ := hend
      obtain ⟨nv, vv, hDj⟩ := HD.out j (by go_light; omega)
      obtain ⟨b, o, hpe, hbl, hr⟩ := hDj.r
      subst hpe
      have HR : Hid (wr1.rangeAt b (o + j * 16) (dcell (D j) nv vv)) := fun i v hv => HKr.out.cellv (hr i v hv) (fun e => absurd (show w.heap.size ≤ b from e) (Nat.not_le_of_lt hbl))
      have HO : Hid ((dcell (D j) nv vv).toArray.all (·.oneCell') = true) := dc_one _ (by obtain ⟨_, _, e, _⟩ := hDj.n; rw [e]; rfl) (by obtain ⟨_, _, _, e, _⟩ := hDj.v; rw [e]; rfl)
      obtain ⟨x, hx⟩ : ∃ x, x = D j := ⟨_, rfl⟩
      have HX : Hid (x = D j) := hx
      have HVs : Hid (Vs wr1 (· < w.heap.size) x.votes vv) := by rw [hx]; exact hDj.v.keep HKr.out (fun b hb e => by have : b < w.heap.size := hb; omega)
      have HXn : Hid (-9223372036854775808 ≤ x.node ∧ x.node ≤ 9223372036854775807) := by rw [hx]; exact hDj.f.2
      rw [← hx] at HR HO
      obtain ⟨xs, hxs⟩ : ∃ xs, xs = dcell x nv vv := ⟨_, rfl⟩
      rw [← hxs] at HR HO
      have HXS : Hid (xs = dcell x nv vv ∧ xs.length = 16) := ⟨hxs, by rw [hxs]; rfl⟩
      obtain ⟨dv, hdv1, hdv2⟩ := dsDl
      obtain ⟨dV, hdV1, hdV2⟩ := dsVo
      clear hr hDj hx hxs hbl
      obtain ⟨pv, cv, l, hvv, hlm, hfv, hvn, hvl, hvs⟩ := HVs.out
      have HFv : Hid (Fl wr1 (· < w.heap.size) pv (vflat l)) := hfv
      have HVn : Hid (Vn wr1 (· < w.heap.size) l) := hvn
      have HLm : Hid (l.map (·.1) = x.votes) := hlm
      obtain ⟨V, hV⟩ : ∃ V, V = x.votes.length := ⟨_, rfl⟩
      rw [← hV] at hvv hvl
      have HV : Hid (V = x.votes.length ∧ V = l.length) := ⟨hV, by rw [hV, ← hlm, List.length_map]⟩
      have hV9 : (V : Int) ≤ 1034834473200 := by go_light; omega
      clear hfv hvn hlm hV hvs HVs hvl
      go_wp2_with (first
        | (refine wpList_load_mid rfl 38 _ rfl b (o + j * 16) rfl xs dv HR.out hdv1 hdv2 (by rw [szDl, HXS.out.2]) ?_)
        | (refine wpList_store_all rfl 38 _ _ rfl 16 wr1.heap.size (dcell dl0 nil0 nil0) xs rfl rfl (by exact Lv.new wr1 _ _) szDl rfl HXS.out.2 HO.out ?_; intro w5 hl5 k5; have kn5 : Kp (fun _ => False) wr1 w5 := ((Kp.refl (fun _ => False) wr1).alloc _).trans k5 (fun b hb e => by go_light; omega); have HL5 : Hid (Lv w5 wr1.heap.size xs) := hl5; have s15 : w5.cell? ⟨wr1.heap.size, 15, none⟩ = some (.slice pv V cv) := HL5.out.cell (j := 15) (by rw [HXS.out.1, hvv]; rfl); clear hl5 k5))
      have HSb5 : Hid (Sb w5 t mb mp m j D) := HSb.out.keep kn5
      have HK5 : Hid (Kp (fun b => w.heap.size ≤ b) w w5) := HKr.out.trans kn5 (fun _ _ e => e.elim)
      have HFv5 : Hid (Fl w5 (· < w.heap.size) pv (vflat l)) := HFv.out.keep kn5 (fun _ _ => id)
      have HVn5 : Hid (Vn w5 (· < w.heap.size) l) := HVn.out.keep kn5 (fun _ _ => id)
      have HG : Hid (w.heap.size ≤ wr1.heap.size ∧ wr1.heap.size < w5.heap.size ∧ t < wr1.heap.size ∧ mb < wr1.heap.size ∧ mp < wr1.heap.size ∧ m < wr1.heap.size) := ⟨HKr.out.size, HL5.out.lt (by go_light; rw [HXS.out.2]; omega), HSb.out.lt⟩
      obtain ⟨g, hg⟩ : ∃ g, g = wr1.heap.size := ⟨_, rfl⟩
      rw [← hg] at HL5 HG s15 ⊢
      clear hg HSb HKr HFv HVn HR HO kn5 hvv s15
      go_loopg [8, 42] V (fun gk av iv wr => ∃ (k : Nat) (v' : Value), k ≤ V ∧ gk = V - k ∧ iv = .int .i64 k ∧ v' = av ∧ Hid (Kp (fun _ => False) w5 wr) ∧ Hid (wr.ownsRow w5.heap.size 55 14 v' k (vflat ((x.votes.take k).map nrm))))
      case atStart => exact ⟨0, _, by go_light; omega, rfl, rfl, rfl, Kp.refl _ _, World.ownsRow_nil _ _ _ _⟩
      case round =>
        obtain ⟨k, av, hk, rfl, rfl, hav, HK6, HO6⟩ := hrel
        subst hav
        obtain ⟨wr2, rfl⟩ : ∃ x, x = wr := ⟨_, rfl⟩
        by_cases hlt2 : (k : Int) < (V : Int)
        · have hkl : k < l.length := by go_light; rw [← HV.out.2]; omega
          obtain ⟨y, hy⟩ : ∃ y, y = l[k] := ⟨_, rfl⟩
          obtain ⟨b2, o2, hpe2, hzz, hcc⟩ := HFv5.out (k * 14) (.int .i64 l[k].1.slot) (by
            have h1 := vflat_nth l k hkl
            have h2 : (((vflat l).drop (k * 14)).take 14)[0]? = some (.int .i64 l[k].1.slot) := by rw [h1]; rfl
            rw [List.getElem?_take_of_lt (by go_light; omega), List.getElem?_drop] at h2
            simpa using h2)
          subst hpe2
          have hr2 := fl_range (HFv5.out.keep HK6.out (fun _ _ => id)) (k * 14) 14
          rw [vflat_nth l k hkl, ← hy] at hr2
          have HR2 : Hid (wr2.rangeAt b2 (o2 + k * 14) (vcell y.1 y.2)) := hr2
          have HOy : Hid ((vcell y.1 y.2).toArray.all (·.oneCell') = true) := vc_one y.1 (by obtain ⟨_, _, e, _⟩ := HVn5.out y (by rw [hy]; exact List.getElem_mem hkl); rw [e]; rfl)
          have HTy : Hid ((x.votes.take (k + 1)).map nrm = (x.votes.take k).map nrm ++ [nrm y.1]) := by
            show _ = _
            have e1 : x.votes[k]? = some y.1 := by rw [← HLm.out, List.getElem?_map, List.getElem?_eq_getElem hkl, ← hy]; rfl
            rw [List.take_add_one, e1, Option.toList_some, List.map_append]
            rfl
          obtain ⟨ys, hys⟩ : ∃ ys, ys = vcell y.1 y.2 := ⟨_, rfl⟩
          rw [← hys] at HR2 HOy
          have HYS : Hid (ys = vcell y.1 y.2 ∧ ys.length = 14) := ⟨hys, by rw [hys]; rfl⟩
          have e1 : wrap64 ((IntKind.u64.wrap y.1.slot).tmod 4) = ((mm 4 y.1.slot : Nat) : Int) := mm_eq 4 y.1.slot (by go_light; omega) (by go_light; omega)
          have l1 := mm_lt 4 y.1.slot (by go_light; omega)
          obtain ⟨s0, hs0⟩ : ∃ s0 : Int, s0 = ((mm 4 y.1.slot : Nat) : Int) := ⟨_, rfl⟩
          obtain ⟨s1, hs1⟩ : ∃ s1 : Int, s1 = 1 + s0 := ⟨_, rfl⟩
          have e3 : wrap64 (1 + s0) = s1 := by go_light; unfold wrap64; omega
          have e2 : wrap64 ((IntKind.u64.wrap y.1.ballot).tmod 8) = ((mm 8 y.1.ballot : Nat) : Int) := mm_eq 8 y.1.ballot (by go_light; omega) (by go_light; omega)
          obtain ⟨b1, hb1⟩ : ∃ b1 : Int, b1 = ((mm 8 y.1.ballot : Nat) : Int) := ⟨_, rfl⟩
          have HNr : Hid (nrm y.1 = (⟨s1, b1, cid b1, []⟩, nil0)) := by show _ = _; unfold nrm; rw [hs1, hs0, hb1]
          rw [← hs0] at e1
          rw [← hb1] at e2
          obtain ⟨zs, hzs⟩ : ∃ zs, zs = vcell ⟨s1, b1, cid b1, []⟩ nil0 := ⟨_, rfl⟩
          have HZS : Hid (zs = vcell ⟨s1, b1, cid b1, []⟩ nil0 ∧ zs.length = 14 ∧ ∀ u ∈ zs, u.oneCell' = true) := ⟨hzs, by rw [hzs]; rfl, fun u hu => by
            have := Array.all_eq_true_iff_forall_mem.1 (vc_one ⟨s1, b1, cid b1, []⟩ (nv := nil0) rfl)
            exact this u (by rw [hzs] at hu; simpa using hu)⟩
          clear hys hr2 hzz hcc hy hkl l1 hs0 hs1 hb1 hzs
          go_wp2_with (first
            | (refine wpList_load_mid rfl 55 _ rfl b2 (o2 + k * 14) rfl ys dV HR2.out hdV1 hdV2 (by rw [szVo, HYS.out.2]) ?_)
            | (refine wpList_store_all rfl 55 _ _ rfl 14 wr2.heap.size (vcell vo0 nil0) ys rfl rfl (by exact Lv.new wr2 _ _) szVo rfl HYS.out.2 HOy.out ?_; intro w7 hl7 k7; have kn7 : Kp (fun _ => False) wr2 w7 := ((Kp.refl (fun _ => False) wr2).alloc _).trans k7 (fun b hb e => by go_light; omega); have HL7 : Hid (Lv w7 wr2.heap.size (vcell y.1 y.2)) := (by rw [← HYS.out.1]; exact hl7); have t0 : w7.cell? ⟨wr2.heap.size, 0, none⟩ = some (.int .i64 y.1.slot) := HL7.out.cell (j := 0) rfl; have t1 : w7.cell? ⟨wr2.heap.size, 1, none⟩ = some (.int .i64 y.1.ballot) := HL7.out.cell (j := 1) rfl; have f0 : w7.frozen? ⟨wr2.heap.size, 0, none⟩ = false := HL7.out.fz (by simp); have f1 : w7.frozen? ⟨wr2.heap.size, 1, none⟩ = false := HL7.out.fz (by simp); clear hl7 k7)
            | (refine wpList_store_sub rfl 35 _ _ rfl 12 wr2.heap.size 2 (vcell ⟨s1, b1, y.1.c, y.1.nodes⟩ y.2) (cmdA (cid b1) nil0).toList zs rfl rfl (by exact (HL7.out.set1 0 (.int .i64 s1) (by simp)).set1 1 (.int .i64 b1) (by simp)) szCmd rfl (by simp) (cmd_one (cid b1) (v := nil0) rfl) (by rw [HZS.out.1]; rfl) ?_; intro w8 hl8 k8; have kn8 : Kp (fun _ => False) wr2 w8 := ((kn7.setCell (a := ⟨wr2.heap.size, 0, none⟩) (fun h => absurd h (Nat.lt_irrefl _)) _).setCell (a := ⟨wr2.heap.size, 1, none⟩) (fun h => absurd h (Nat.lt_irrefl _)) _).trans k8 (fun b hb e => by go_light; omega); have HL8 : Hid (Lv w8 wr2.heap.size zs) := hl8; have HO8 : Hid ((w8.alloc (.cells (vcell ⟨s1, b1, cid b1, []⟩ nil0).toArray 55)).ownsRow w5.heap.size 55 14 av k (vflat ((x.votes.take k).map nrm))) := (ownsRow_keep HO6.out kn8 (fun _ _ => id)).alloc _; have HSz : Hid (w5.heap.size ≤ (w8.alloc (.cells (vcell ⟨s1, b1, cid b1, []⟩ nil0).toArray 55)).heap.size) := (by go_light; show _ ≤ _; have := HK6.out.size; have := kn8.size; simp; omega); have HK8 : Hid (Kp (fun _ => False) w5 (w8.alloc (.cells (vcell ⟨s1, b1, cid b1, []⟩ nil0).toArray 55))) := (HK6.out.trans kn8 (fun _ _ e => e)).alloc _; clear hl8 k8)
            | (refine wpList_load_all rfl 55 _ rfl 14 wr2.heap.size zs rfl HL8.out dsVo szVo HZS.out.2.1 ?_; rw [HZS.out.1])
            | (at_builtin; go_must (refine wpList_append_own_src _ rfl _ _ 36 36 rfl w5.heap.size 55 ti tz 14 136 Try.underlying36 hi1 hi2 hi3 hi4 hi5 (by decide) av k _ rfl HO8.out _ 1 zs rfl (Src.ofSlice _ Try.underlying36 ⟨w8.heap.size, 0, none⟩ 1 1 zs (by rw [HZS.out.2.1]) (fun j u hj => by rw [Addr.add_mid, Nat.zero_add]; exact (Lv.new w8 (vcell ⟨s1, b1, cid b1, []⟩ nil0).toArray 55).cell (by rw [HZS.out.1] at hj; exact hj)) HZS.out.2.2) (by go_light; unfold maxLen; omega) (by go_light; omega) HSz.out ?_); intro v2 w9 hown' hk9 hblk9))
          have HK9 : Hid (Kp (fun _ => False) w5 w9) := HK8.out.app HO8.out (grownBy_kp hk9)
          have HO9 : Hid (w9.ownsRow w5.heap.size 55 14 v2 (k + 1) (vflat ((x.votes.take (k + 1)).map nrm))) := by
            rw [HTy.out, vflat_append, HNr.out]
            have e5 : vflat [((⟨s1, b1, cid b1, []⟩ : Vo), nil0)] = zs := by rw [HZS.out.1]; show vcell _ _ ++ [] = _; rw [List.append_nil]
            rw [e5]
            exact hown'
          clear hown' hk9 hblk9 HO8 HK8
          go_roundg (V - (k + 1))
          case rel => exact ⟨k + 1, _, by go_light; omega, rfl, by go_num, rfl, HK9, HO9⟩
          case measure => (go_light; omega)
        · obtain rfl : k = V := by go_light; omega
          have hO := HO6.out
          rw [List.take_of_length_le (by go_light; have := HV.out.1; omega)] at hO
          obtain ⟨qv, cqv, hve, hfl⟩ := own_fl hO
          subst hve
          have HFw : Hid (Fl wr2 (fun b => w5.heap.size ≤ b ∧ b < wr2.heap.size) qv (vflat (x.votes.map nrm))) := hfl
          have HL6 : Hid (Lv wr2 g xs) := HL5.out.keep HK6.out id
          have HSb6 : Hid (Sb wr2 t mb mp m j D) := HSb5.out.keep HK6.out
          have HKw6 : Hid (Kp (fun b => w.heap.size ≤ b) w wr2) := HK5.out.trans HK6.out (fun _ _ e => e.elim)
          have HG6 : Hid (g < wr2.heap.size ∧ w5.heap.size ≤ wr2.heap.size) := ⟨by go_light; have := HG.out; have := HK6.out.size; omega, HK6.out.size⟩
          have hsl := slice_do (some ⟨b, o, none⟩) L c j (by go_light; have := HLc.out; omega)
          clear hO hfl HO6 HFv5 HVn5 HSb5 HK5 HL5 HK6
          go_wp2
          clear hsl
          go_loopg [11, 72] j (fun gk fv iv wr => ∃ i : Nat, i ≤ j ∧ gk = j - i ∧ iv = .int .i64 i ∧ fv = .bool (frb D x.node i) ∧ Hid (Kp (fun _ => False) wr2 wr))
          case atStart => exact ⟨0, by go_light; omega, rfl, rfl, rfl, Kp.refl _ _⟩
          case round =>
            obtain ⟨i, hi, rfl, rfl, hfv, HK7⟩ := hrel
            obtain ⟨fr, hfr⟩ : ∃ fr, fr = frb D x.node i := ⟨_, rfl⟩
            rw [← hfr] at hfv
            subst hfv
            have HFr : Hid (fr = frb D x.node i) := hfr
            clear hfr
            obtain ⟨wr3, rfl⟩ : ∃ x, x = wr := ⟨_, rfl⟩
            by_cases hlt3 : (i : Int) < (j : Int)
            · obtain ⟨nv3, vv3, hDi⟩ := HD.out i (by go_light; omega)
              obtain ⟨b3, o3, hpe3, hbl3, hr3⟩ := hDi.r
              cases hpe3
              have HR3 : Hid (wr3.rangeAt b (o + i * 16) (dcell (D i) nv3 vv3)) := fun i' v hv => HK7.out.cellv (HKw6.out.cellv (hr3 i' v hv) (fun e => absurd (show w.heap.size ≤ b from e) (Nat.not_le_of_lt hbl3))) id
              have HO3 : Hid ((dcell (D i) nv3 vv3).toArray.all (·.oneCell') = true) := dc_one _ (by obtain ⟨_, _, e, _⟩ := hDi.n; rw [e]; rfl) (by obtain ⟨_, _, _, e, _⟩ := hDi.v; rw [e]; rfl)
              obtain ⟨ys, hys⟩ : ∃ ys, ys = dcell (D i) nv3 vv3 := ⟨_, rfl⟩
              rw [← hys] at HR3 HO3
              have HYS : Hid (ys = dcell (D i) nv3 vv3 ∧ ys.length = 16) := ⟨hys, by rw [hys]; rfl⟩
              have HL7 : Hid (Lv wr3 g xs) := HL6.out.keep HK7.out id
              obtain ⟨dn, hdn⟩ : ∃ dn, dn = (D i).node := ⟨_, rfl⟩
              have HDn : Hid (dn = (D i).node) := hdn
              clear hr3 hDi hys hbl3 hdn
              cases fr with
              | true =>
                go_wp2_with (first
                  | (refine wpList_load_mid rfl 38 _ rfl b (o + i * 16) rfl ys dv HR3.out hdv1 hdv2 (by rw [szDl, HYS.out.2]) ?_)
                  | (refine wpList_store_all rfl 38 _ _ rfl 16 wr3.heap.size (dcell dl0 nil0 nil0) ys rfl rfl (by exact Lv.new wr3 _ _) szDl rfl HYS.out.2 HO3.out ?_; intro w8 hl8 k8; have kn8 : Kp (fun _ => False) wr3 w8 := ((Kp.refl (fun _ => False) wr3).alloc _).trans k8 (fun b hb e => by go_light; omega); have HK8 : Hid (Kp (fun _ => False) wr2 w8) := HK7.out.trans kn8 (fun _ _ e => e); have u1 : w8.cell? ⟨wr3.heap.size, 1, none⟩ = some (.int .i64 dn) := hl8.cell (j := 1) (by rw [HYS.out.1, HDn.out]; rfl); have u2 : w8.cell? ⟨g, 1, none⟩ = some (.int .i64 x.node) := (HL7.out.keep kn8 id).cell (j := 1) (by rw [HXS.out.1]; rfl); clear hl8 k8 kn8))
                go_roundg (j - (i + 1))
                case rel => exact ⟨i + 1, by go_light; omega, rfl, by go_num, by rw [frb_succ, ← HFr.out, ← HDn.out, Bool.true_and], HK8⟩
                case measure => (go_light; omega)
              | false =>
                go_wp2_with (first
                  | (refine wpList_load_mid rfl 38 _ rfl b (o + i * 16) rfl ys dv HR3.out hdv1 hdv2 (by rw [szDl, HYS.out.2]) ?_)
                  | (refine wpList_store_all rfl 38 _ _ rfl 16 wr3.heap.size (dcell dl0 nil0 nil0) ys rfl rfl (by exact Lv.new wr3 _ _) szDl rfl HYS.out.2 HO3.out ?_; intro w8 hl8 k8; have kn8 : Kp (fun _ => False) wr3 w8 := ((Kp.refl (fun _ => False) wr3).alloc _).trans k8 (fun b hb e => by go_light; omega); have HK8 : Hid (Kp (fun _ => False) wr2 w8) := HK7.out.trans kn8 (fun _ _ e => e); clear hl8 k8 kn8))
                go_roundg (j - (i + 1))
                case rel => exact ⟨i + 1, by go_light; omega, rfl, by go_num, by rw [frb_succ, ← HFr.out, Bool.false_and], HK8⟩
                case measure => (go_light; omega)
            · obtain rfl : i = j := by go_light; omega
              have HSb7 : Hid (Sb wr3 t mb mp m i D) := HSb6.out.keep HK7.out
              have HKw7 : Hid (Kp (fun b => w.heap.size ≤ b) w wr3) := HKw6.out.trans HK7.out (fun _ _ e => e.elim)
              have HFw7 : Hid (Fl wr3 (fun b => w5.heap.size ≤ b ∧ b < wr2.heap.size) qv (vflat (x.votes.map nrm))) := HFw.out.keep HK7.out (fun _ _ => id)
              have u2 : wr3.cell? ⟨g, 1, none⟩ = some (.int .i64 x.node) := (HL6.out.keep HK7.out id).cell (j := 1) (by rw [HXS.out.1]; rfl)
              clear HSb6 HKw6 HFw HK7 HL6
              go_wp2_with fail
              obtain ⟨nxt, pr, B, qb, cb, qm, cm, hT, hqb, hnx, hM, hqm, hid, hpr⟩ := HSb7.out
              by_cases hnode : 0 ≤ x.node ∧ x.node < 16
              · obtain ⟨n, hn⟩ : ∃ n : Nat, x.node = (n : Int) := ⟨x.node.toNat, by go_light; omega⟩
                by_cases hh : hasN pr n = true
                · have hfr : frb D x.node i = false := by
                    have h1 := (hpr n (by go_light; omega)).1 hh
                    cases hf : frb D x.node i with
                    | false => rfl
                    | true => exact absurd (by rw [hn]; exact h1) ((frb_iff D x.node i).1 hf)
                  have HC : Hid (Calls _ _ _ wr3 _) := tpromise_old hT x.node (by go_light; omega) (by rw [hn]; exact hh) qv k cqv
                  have HSbn : Hid (Sb wr3 t mb mp m (i + 1) D) := ⟨nxt, pr, B, qb, cb, qm, cm, hT, le_next hqb, hnx, hM, le_next hqm, hid, sb_old hpr (fun n' hn' e => by rw [← HX.out, hn] at e; have : n' = n := (Int.natCast_inj.1 e).symm; rw [this]; exact hh)⟩
                  have hfe : fr = false := by rw [HFr.out]; exact hfr
                  subst hfe
                  clear hT hqb hnx hM hqm hid hpr HSb7 hh hnode hn hfr
                  refine HC.out.mono ?_
                  rintro e w8 ⟨rfl, k8⟩
                  have HSb8 : Hid (Sb w8 t mb mp m (i + 1) D) := HSbn.out.keep k8
                  have HKw8 : Hid (Kp (fun b => w.heap.size ≤ b) w w8) := HKw7.out.trans k8 (fun _ _ e => e.elim)
                  clear k8 HC HSbn HKw7 HFw7 u2
                  obtain ⟨nxt, pr, B, qb, cb, qm, cm, hT, hqb, hnx, hM, hqm, hid, hpr⟩ := HSb8.out
                  have HT8 : Hid (Tr w8 t mb mp qb 0 cb 0 9 1 nxt pr B (fun _ => none)) := hT
                  have HM8 : Hid (Mm w8 m qm cm (bb (plainB B))) := hM
                  have HId : Hid (Idb (plainB B)) := hid
                  clear hT hM hid hqb hqm hnx hpr
                  go_wp2
                  go_loopg [18] 4 (fun gk sv wr => ∃ s : Nat, 1 ≤ s ∧ s ≤ 5 ∧ gk = 5 - s ∧ sv = .int .i64 s ∧ Hid (Kp (fun _ => False) w8 wr))
                  case atStart => exact ⟨1, by go_light; omega, by go_light; omega, rfl, rfl, Kp.refl _ _⟩
                  case round =>
                    obtain ⟨s, hs1, hs5, rfl, rfl, HK9⟩ := hrel
                    obtain ⟨wr5, rfl⟩ : ∃ x, x = wr := ⟨_, rfl⟩
                    by_cases hlt5 : (s : Int) < 5
                    · have HBd : Hid (Calls _ _ _ wr5 _) := tbound_ok (HT8.out.keep HK9.out) (s : Int) (by go_light; omega)
                      have HLk : Hid (∀ u, Kp (fun _ => False) wr5 u → (Instr.lookup 53 (.map (some m)) (.int .i64 (s : Int)) true).run Try.prog u = .ok (.tuple #[((bb (plainB B)) s).getD (.int .i64 0), .bool ((bb (plainB B)) s).isSome]) u) := fun u ku => look_mm_ok uMI zInt ((HM8.out.keep HK9.out id).keep ku id) (s : Int) (z_wf (by go_light; omega))
                      cases hB : B (s : Int) with
                      | none =>
                        have e1 : bb (plainB B) (s : Int) = none := by unfold bb plainB; rw [hB]; rfl
                        rw [e1, Option.getD_none, Option.isSome_none] at HLk
                        rw [hB, Option.isSome_none, Option.getD_none] at HBd
                        clear hB e1
                        go_wp2_with fail
                        refine HBd.out.mono ?_
                        rintro e wa ⟨va, rfl, ka, nva, rfl, hni⟩
                        have HOa : Hid ((cmdA vo0.c nva).toList.toArray.all (·.oneCell') = true) := cmd_one _ (by obtain ⟨_, _, e, _⟩ := hni; rw [e]; rfl)
                        have HKa : Hid (Kp (fun _ => False) wr5 wa) := ka
                        clear hni ka HBd
                        go_wp2_with (refine wpList_store_all rfl 35 _ _ rfl 12 wa.heap.size zeroC.toList (cmdA vo0.c nva).toList rfl rfl (by exact Lv.new wa _ _) szCmd rfl rfl HOa.out ?_; intro wb hlb kb; have HKb : Hid (Kp (fun _ => False) wr5 wb) := (HKa.out.alloc _).trans kb (fun b hb e => by go_light; have := HKa.out.size; omega); have hlk := HLk.out wb HKb.out; clear hlb kb)
                        go_roundg (5 - (s + 1))
                        case rel => exact ⟨s + 1, by go_light; omega, by go_light; omega, rfl, by go_num, HK9.out.trans HKb.out (fun _ _ e => e)⟩
                        case measure => (go_light; omega)
                      | some y =>
                        have e1 : bb (plainB B) (s : Int) = some (.int .i64 y.1.ballot) := by unfold bb plainB; rw [hB]; rfl
                        have hyi : y.1.c.id = y.1.ballot := HId.out (s : Int) y.1 (by unfold plainB; rw [hB]; rfl)
                        have HYi : Hid (y.1.c.id = y.1.ballot) := hyi
                        rw [e1, Option.getD_some, Option.isSome_some] at HLk
                        rw [hB, Option.isSome_some, Option.getD_some] at HBd
                        clear hB e1 hyi
                        go_wp2_with fail
                        refine HBd.out.mono ?_
                        rintro e wa ⟨va, rfl, ka, nva, rfl, hni⟩
                        have HOa : Hid ((cmdA y.1.c nva).toList.toArray.all (·.oneCell') = true) := cmd_one _ (by obtain ⟨_, _, e, _⟩ := hni; rw [e]; rfl)
                        have HKa : Hid (Kp (fun _ => False) wr5 wa) := ka
                        clear hni ka HBd
                        go_wp2_with (refine wpList_store_all rfl 35 _ _ rfl 12 wa.heap.size zeroC.toList (cmdA y.1.c nva).toList rfl rfl (by exact Lv.new wa _ _) szCmd rfl rfl HOa.out ?_; intro wb hlb kb; have HKb : Hid (Kp (fun _ => False) wr5 wb) := (HKa.out.alloc _).trans kb (fun b hb e => by go_light; have := HKa.out.size; omega); have hlk := HLk.out wb HKb.out; have v0 : wb.cell? ⟨wa.heap.size, 0, none⟩ = some (.int .i64 y.1.ballot) := hlb.cell (j := 0) (by rw [← HYi.out]; rfl); clear hlb kb)
                        go_roundg (5 - (s + 1))
                        case rel => exact ⟨s + 1, by go_light; omega, by go_light; omega, rfl, by go_num, HK9.out.trans HKb.out (fun _ _ e => e)⟩
                        case measure => (go_light; omega)
                    · go_wp2
                      go_roundg (L - (i + 1))
                      case rel => exact ⟨i + 1, by go_light; omega, by go_light; omega, rfl, by go_num, HKw8.out.trans HK9.out (fun _ _ e => e.elim), HSb8.out.keep HK9.out⟩
                      case measure => (go_light; omega)
                · have hh0 : hasN pr n = false := by simpa using hh
                  have hfr : frb D x.node i = true := (frb_iff D x.node i).2 (fun h1 => by go_light; have := (hpr n (by go_light; omega)).2 (by rw [← hn]; exact h1); rw [hh0] at this; cases this)
                  have hfe : fr = true := by rw [HFr.out]; exact hfr
                  subst hfe
                  have hVl : (x.votes.map nrm).length = k := by rw [List.length_map, ← HV.out.1]
                  have HC0 := tpromise_new hT n (by go_light; omega) hh0 qv cqv (x.votes.map nrm) (fun b => b ≠ t ∧ b ≠ mb) (fun b hb => hb) (HFw7.out.mono (fun b hb => by go_light; have := HG.out; exact ⟨by go_light; omega, by go_light; omega⟩)) (vn_nrm wr3 _ x.votes) (by go_light; rw [hVl]; omega) (nrm_slots x.votes) (by rw [hVl]; exact qsum hqb (by go_light; omega) (by go_light; omega))
                  rw [hVl, ← hn] at HC0
                  have HC : Hid (Calls _ _ _ wr3 _) := HC0
                  have HM7 : Hid (Mm wr3 m qm cm (bb (plainB B))) := hM
                  have HQm : Hid (qm ≤ i * 1034834473200 ∧ qb ≤ i * 1034834473200) := ⟨hqm, hqb⟩
                  have HId : Hid (Idb (plainB B)) := hid
                  have HNx : Hid (1 ≤ nxt) := hnx
                  have HPr : Hid (∀ n' : Nat, n' < 16 → (hasN (pr.set n true) n' = true ↔ ∃ i', i' < i + 1 ∧ (D i').node = n')) := sb_new hT.len (by go_light; omega) hpr (by rw [← HX.out]; exact hn)
                  have HVl : Hid ((x.votes.map nrm).length = k) := hVl
                  clear hT hqb hnx hM hqm hid hpr HSb7 hh hnode hn hfr hh0 HC0 hVl
                  refine HC.out.mono ?_
                  rintro e w7 ⟨rfl, k7, nxt', B', qb', cb', hT', hqb', hB'⟩
                  have HT7 : Hid (Tr w7 t mb mp qb' 0 cb' 0 9 1 nxt' (pr.set n true) B' (fun _ => none)) := hT'
                  have HB' : Hid ((plainB B', nxt') = cnts 1 (plainB B) nxt ((x.votes.map nrm).map (·.1)) ∧ qb' ≤ qb + k) := ⟨hB', by rw [List.length_map, HVl.out] at hqb'; exact hqb'⟩
                  have HM7w : Hid (Mm w7 m qm cm (bb (plainB B))) := HM7.out.keep k7 (fun e => by go_light; have := HMb.out; omega)
                  have HKw7w : Hid (Kp (fun b => w.heap.size ≤ b) w w7) := HKw7.out.trans k7 (fun b _ e => by go_light; have := HB.out; rcases e with rfl | rfl <;> omega)
                  have HFw8 : Hid (Fl w7 (fun b => w5.heap.size ≤ b ∧ b < wr2.heap.size) qv (vflat (x.votes.map nrm))) := HFw7.out.keep k7 (fun b hb e => by go_light; have := HG.out; omega)
                  clear hT' hqb' hB' k7 HC HM7 HKw7 HFw7 u2
                  go_wp2
                  go_loopg [96] k (fun gk iv wr => ∃ a : Nat, a ≤ k ∧ gk = k - a ∧ iv = .int .i64 a ∧ Hid (Kp (fun b => b = m) w7 wr) ∧ Hid (∃ qm' cm', Mm wr m qm' cm' (bb (cnts 1 (plainB B) nxt (((x.votes.map nrm).map (·.1)).take a)).1) ∧ qm' ≤ qm + a))
                  case atStart => exact ⟨0, by go_light; omega, rfl, rfl, Kp.refl _ _, ⟨qm, cm, HM7w.out, by go_light; omega⟩⟩
                  case round =>
                    obtain ⟨a, ha, rfl, rfl, HKa, HMa⟩ := hrel
                    obtain ⟨wr4, rfl⟩ : ∃ x, x = wr := ⟨_, rfl⟩
                    by_cases hlt4 : (a : Int) < (k : Int)
                    · have hal : a < (x.votes.map nrm).length := by go_light; rw [HVl.out]; omega
                      obtain ⟨y, hy⟩ : ∃ y, y = (x.votes.map nrm)[a] := ⟨_, rfl⟩
                      obtain ⟨b4, o4, hpe4, hz4, hc4⟩ := HFw8.out (a * 14) (.int .i64 (x.votes.map nrm)[a].1.slot) (by
                        have h1 := vflat_nth (x.votes.map nrm) a hal
                        have h2 : (((vflat (x.votes.map nrm)).drop (a * 14)).take 14)[0]? = some (.int .i64 (x.votes.map nrm)[a].1.slot) := by rw [h1]; rfl
                        rw [List.getElem?_take_of_lt (by go_light; omega), List.getElem?_drop] at h2
                        simpa using h2)
                      subst hpe4
                      have hr4 := fl_range (HFw8.out.keep HKa.out (fun b hb e => by go_light; have := HG.out; have : w5.heap.size ≤ b := hb.1; omega)) (a * 14) 14
                      rw [vflat_nth (x.votes.map nrm) a hal, ← hy] at hr4
                      have HR4 : Hid (wr4.rangeAt b4 (o4 + a * 14) (vcell y.1 y.2)) := hr4
                      have HYm : Hid (y ∈ x.votes.map nrm) := by rw [hy]; exact List.getElem_mem hal
                      have HOy : Hid ((vcell y.1 y.2).toArray.all (·.oneCell') = true) := vc_one y.1 (by obtain ⟨v', _, rfl⟩ := List.mem_map.1 HYm.out; rfl)
                      have HTa : Hid (((x.votes.map nrm).map (·.1)).take (a + 1) = ((x.votes.map nrm).map (·.1)).take a ++ [y.1]) := by
                        show _ = _
                        rw [List.take_add_one, List.getElem?_map, List.getElem?_eq_getElem hal, ← hy]
                        rfl
                      obtain ⟨ys, hys⟩ : ∃ ys, ys = vcell y.1 y.2 := ⟨_, rfl⟩
                      rw [← hys] at HR4 HOy
                      have HYS : Hid (ys = vcell y.1 y.2 ∧ ys.length = 14) := ⟨hys, by rw [hys]; rfl⟩
                      obtain ⟨qm', cm', hMa, hqa⟩ := HMa.out
                      obtain ⟨bc, hbc⟩ : ∃ bc, bc = (cnts 1 (plainB B) nxt (((x.votes.map nrm).map (·.1)).take a)).1 := ⟨_, rfl⟩
                      rw [← hbc] at hMa
                      have hy1 := nrm_slots x.votes y HYm.out
                      have hy2 := nrm_one x.votes y HYm.out
                      have HBc : Hid ((cnts 1 (plainB B) nxt (((x.votes.map nrm).map (·.1)).take (a + 1))).1 = cntV bc y.1) := by
                        show _ = _
                        rw [HTa.out, cnts_snoc, if_pos hy2, hbc]
                      have HMa4 : Hid (Mm wr4 m qm' cm' (bb bc)) := hMa
                      have HQa : Hid (qm' ≤ qm + a ∧ qm' < 4611686018427387904) := ⟨hqa, Nat.lt_of_le_of_lt hqa (qsum HQm.out.1 (by go_light; omega) (by go_light; omega))⟩
                      have HWs : Hid ((Lit.int .i64 y.1.slot).wf = true) := z_wf hy1
                      have HLk : Hid (∀ u, Kp (fun _ => False) wr4 u → (Instr.lookup 53 (.map (some m)) (.int .i64 y.1.slot) true).run Try.prog u = .ok (.tuple #[((bb bc) y.1.slot).getD (.int .i64 0), .bool ((bb bc) y.1.slot).isSome]) u) := fun u ku => look_mm_ok uMI zInt (hMa.keep ku id) y.1.slot (z_wf hy1)
                      clear hys hr4 hz4 hc4 hy hal hMa hqa hbc hy1 hy2 HMa
                      by_cases hah : ahead (bc y.1.slot) y.1 = true
                      · obtain ⟨z, hz, hzb⟩ := ahead_some hah
                        have e1 : bb bc y.1.slot = some (.int .i64 z.ballot) := by unfold bb; rw [hz]; rfl
                        rw [e1, Option.getD_some, Option.isSome_some] at HLk
                        have hzz : ¬ z.ballot < y.1.ballot := by go_light; omega
                        have HMn : Hid (Mm wr4 m qm' cm' (bb (cnts 1 (plainB B) nxt (((x.votes.map nrm).map (·.1)).take (a + 1))).1)) := by rw [HBc.out, bb_skip hah]; exact HMa4.out
                        clear hah hz hzb e1
                        go_wp2_with (first
                          | (refine wpList_load_mid rfl 55 _ rfl b4 (o4 + a * 14) rfl ys dV HR4.out hdV1 hdV2 (by rw [szVo, HYS.out.2]) ?_)
                          | (refine wpList_store_all rfl 55 _ _ rfl 14 wr4.heap.size (vcell vo0 nil0) ys rfl rfl (by exact Lv.new wr4 _ _) szVo rfl HYS.out.2 HOy.out ?_; intro w8 hl8 k8; have kn8 : Kp (fun _ => False) wr4 w8 := ((Kp.refl (fun _ => False) wr4).alloc _).trans k8 (fun b hb e => by go_light; omega); have HK8 : Hid (Kp (fun b => b = m) w7 w8) := HKa.out.trans kn8 (fun _ _ e => e.elim); have HM8 := HMn.out.keep kn8 id; have t0 : w8.cell? ⟨wr4.heap.size, 0, none⟩ = some (.int .i64 y.1.slot) := hl8.cell (j := 0) (by rw [HYS.out.1]; rfl); have t1 : w8.cell? ⟨wr4.heap.size, 1, none⟩ = some (.int .i64 y.1.ballot) := hl8.cell (j := 1) (by rw [HYS.out.1]; rfl); have hlk := HLk.out w8 kn8; have HM8' : Hid (Mm w8 m qm' cm' _) := HM8; clear hl8 k8 kn8 HM8))
                        go_roundg (k - (a + 1))
                        case rel => exact ⟨a + 1, by go_light; omega, rfl, by go_num, HK8, ⟨qm', cm', HM8'.out, by go_light; have := HQa.out.1; omega⟩⟩
                        case measure => (go_light; omega)
                      · have hah0 : ahead (bc y.1.slot) y.1 = false := by simpa using hah
                        have HSt : Hid (∀ u' cc, Mm u' m (qm' + 1) cc (upd (bb bc) y.1.slot (.int .i64 y.1.ballot)) → Mm u' m (qm' + 1) cc (bb (cnts 1 (plainB B) nxt (((x.votes.map nrm).map (·.1)).take (a + 1))).1)) := fun u' cc hu' => by rw [HBc.out, bb_step hah0]; exact hu'
                        cases hbz : bc y.1.slot with
                        | none =>
                          have e1 : bb bc y.1.slot = none := by unfold bb; rw [hbz]; rfl
                          rw [e1, Option.getD_none, Option.isSome_none] at HLk
                          clear hbz e1 hah hah0
                          go_wp2_with (first
                            | (refine wpList_load_mid rfl 55 _ rfl b4 (o4 + a * 14) rfl ys dV HR4.out hdV1 hdV2 (by rw [szVo, HYS.out.2]) ?_)
                            | (refine wpList_store_all rfl 55 _ _ rfl 14 wr4.heap.size (vcell vo0 nil0) ys rfl rfl (by exact Lv.new wr4 _ _) szVo rfl HYS.out.2 HOy.out ?_; intro w8 hl8 k8; have kn8 : Kp (fun _ => False) wr4 w8 := ((Kp.refl (fun _ => False) wr4).alloc _).trans k8 (fun b hb e => by go_light; omega); have HK8 : Hid (Kp (fun b => b = m) w7 w8) := HKa.out.trans kn8 (fun _ _ e => e.elim); have HM8 : Hid (Mm w8 m qm' cm' (bb bc)) := HMa4.out.keep kn8 id; have t0 : w8.cell? ⟨wr4.heap.size, 0, none⟩ = some (.int .i64 y.1.slot) := hl8.cell (j := 0) (by rw [HYS.out.1]; rfl); have t1 : w8.cell? ⟨wr4.heap.size, 1, none⟩ = some (.int .i64 y.1.ballot) := hl8.cell (j := 1) (by rw [HYS.out.1]; rfl); have hlk := HLk.out w8 kn8; clear hl8 k8 kn8)
                            | (at_mapUpdate; go_must (refine wpList_put_mm rfl _ _ _ rfl uMI m qm' cm' (bb bc) HM8.out rfl HQa.out.2 y.1.slot HWs.out rfl (.int .i64 y.1.ballot) rfl ?_); intro w9 hm9 k9; have HM9 : Hid (∃ cc, Mm w9 m (qm' + 1) cc (bb (cnts 1 (plainB B) nxt (((x.votes.map nrm).map (·.1)).take (a + 1))).1)) := ⟨_, HSt.out w9 _ hm9⟩; have HK9 : Hid (Kp (fun b => b = m) w7 w9) := HK8.out.trans k9 (fun _ _ e => e); clear hm9 k9))
                          go_roundg (k - (a + 1))
                          case rel => exact ⟨a + 1, by go_light; omega, rfl, by go_num, HK9, (by obtain ⟨cc, h9⟩ := HM9.out; exact ⟨qm' + 1, cc, h9, by go_light; have := HQa.out.1; omega⟩)⟩
                          case measure => (go_light; omega)
                        | some z =>
                          have e1 : bb bc y.1.slot = some (.int .i64 z.ballot) := by unfold bb; rw [hbz]; rfl
                          rw [e1, Option.getD_some, Option.isSome_some] at HLk
                          have hzz : z.ballot < y.1.ballot := ahead_not hbz hah0
                          clear hbz e1 hah hah0
                          go_wp2_with (first
                            | (refine wpList_load_mid rfl 55 _ rfl b4 (o4 + a * 14) rfl ys dV HR4.out hdV1 hdV2 (by rw [szVo, HYS.out.2]) ?_)
                            | (refine wpList_store_all rfl 55 _ _ rfl 14 wr4.heap.size (vcell vo0 nil0) ys rfl rfl (by exact Lv.new wr4 _ _) szVo rfl HYS.out.2 HOy.out ?_; intro w8 hl8 k8; have kn8 : Kp (fun _ => False) wr4 w8 := ((Kp.refl (fun _ => False) wr4).alloc _).trans k8 (fun b hb e => by go_light; omega); have HK8 : Hid (Kp (fun b => b = m) w7 w8) := HKa.out.trans kn8 (fun _ _ e => e.elim); have HM8 : Hid (Mm w8 m qm' cm' (bb bc)) := HMa4.out.keep kn8 id; have t0 : w8.cell? ⟨wr4.heap.size, 0, none⟩ = some (.int .i64 y.1.slot) := hl8.cell (j := 0) (by rw [HYS.out.1]; rfl); have t1 : w8.cell? ⟨wr4.heap.size, 1, none⟩ = some (.int .i64 y.1.ballot) := hl8.cell (j := 1) (by rw [HYS.out.1]; rfl); have hlk := HLk.out w8 kn8; clear hl8 k8 kn8)
                            | (at_mapUpdate; go_must (refine wpList_put_mm rfl _ _ _ rfl uMI m qm' cm' (bb bc) HM8.out rfl HQa.out.2 y.1.slot HWs.out rfl (.int .i64 y.1.ballot) rfl ?_); intro w9 hm9 k9; have HM9 : Hid (∃ cc, Mm w9 m (qm' + 1) cc (bb (cnts 1 (plainB B) nxt (((x.votes.map nrm).map (·.1)).take (a + 1))).1)) := ⟨_, HSt.out w9 _ hm9⟩; have HK9 : Hid (Kp (fun b => b = m) w7 w9) := HK8.out.trans k9 (fun _ _ e => e); clear hm9 k9))
                          go_roundg (k - (a + 1))
                          case rel => exact ⟨a + 1, by go_light; omega, rfl, by go_num, HK9, (by obtain ⟨cc, h9⟩ := HM9.out; exact ⟨qm' + 1, cc, h9, by go_light; have := HQa.out.1; omega⟩)⟩
                          case measure => (go_light; omega)
                    · obtain rfl : a = k := by go_light; omega
                      obtain ⟨qm', cm', hMa, hqa⟩ := HMa.out
                      rw [List.take_of_length_le (by go_light; rw [List.length_map, HVl.out]; omega), ← HB'.out.1] at hMa
                      obtain ⟨w8, hw8⟩ : ∃ x, x = wr4 := ⟨_, rfl⟩
                      have HSb8 : Hid (Sb w8 t mb mp m (i + 1) D) := by
                        rw [hw8]
                        refine ⟨nxt', pr.set n true, B', qb', cb', qm', cm', HT7.out.keepM HM7w.out HKa.out HMb.out.2.1 HMb.out.2.2.1 HMb.out.2.2.2, qnext HQm.out.2 HB'.out.2 (by go_light; omega), ?_, hMa, qnext HQm.out.1 hqa (by go_light; omega), ?_, HPr.out⟩
                        · have h1 := cnts_nx 1 ((x.votes.map nrm).map (·.1)) (plainB B) nxt
                          rw [← HB'.out.1] at h1
                          exact Int.le_trans HNx.out h1
                        · have h1 := idb_cnts 1 ((x.votes.map nrm).map (·.1)) (plainB B) nxt HId.out (nrm_ids x.votes)
                          rw [← HB'.out.1] at h1
                          exact h1
                      have HKw8 : Hid (Kp (fun b => w.heap.size ≤ b) w w8) := by rw [hw8]; exact HKw7w.out.trans HKa.out (fun b _ e => by go_light; have := HMb.out; omega)
                      rw [← hw8]
                      clear hMa hqa hw8 HMa HKa HT7 HM7w HKw7w HFw8 HId HNx HPr HB' HQm
                      obtain ⟨nxt, pr, B, qb, cb, qm, cm, hT, hqb, hnx, hM, hqm, hid, hpr⟩ := HSb8.out
                      have HT8 : Hid (Tr w8 t mb mp qb 0 cb 0 9 1 nxt pr B (fun _ => none)) := hT
                      have HM8 : Hid (Mm w8 m qm cm (bb (plainB B))) := hM
                      have HId : Hid (Idb (plainB B)) := hid
                      clear hT hM hid hqb hqm hnx hpr
                      go_wp2
                      go_loopg [18] 4 (fun gk sv wr => ∃ s : Nat, 1 ≤ s ∧ s ≤ 5 ∧ gk = 5 - s ∧ sv = .int .i64 s ∧ Hid (Kp (fun _ => False) w8 wr))
                      case atStart => exact ⟨1, by go_light; omega, by go_light; omega, rfl, rfl, Kp.refl _ _⟩
                      case round =>
                        obtain ⟨s, hs1, hs5, rfl, rfl, HK9⟩ := hrel
                        obtain ⟨wr5, rfl⟩ : ∃ x, x = wr := ⟨_, rfl⟩
                        by_cases hlt5 : (s : Int) < 5
                        · have HBd : Hid (Calls _ _ _ wr5 _) := tbound_ok (HT8.out.keep HK9.out) (s : Int) (by go_light; omega)
                          have HLk : Hid (∀ u, Kp (fun _ => False) wr5 u → (Instr.lookup 53 (.map (some m)) (.int .i64 (s : Int)) true).run Try.prog u = .ok (.tuple #[((bb (plainB B)) s).getD (.int .i64 0), .bool ((bb (plainB B)) s).isSome]) u) := fun u ku => look_mm_ok uMI zInt ((HM8.out.keep HK9.out id).keep ku id) (s : Int) (z_wf (by go_light; omega))
                          cases hB : B (s : Int) with
                          | none =>
                            have e1 : bb (plainB B) (s : Int) = none := by unfold bb plainB; rw [hB]; rfl
                            rw [e1, Option.getD_none, Option.isSome_none] at HLk
                            rw [hB, Option.isSome_none, Option.getD_none] at HBd
                            clear hB e1
                            go_wp2_with fail
                            refine HBd.out.mono ?_
                            rintro e wa ⟨va, rfl, ka, nva, rfl, hni⟩
                            have HOa : Hid ((cmdA vo0.c nva).toList.toArray.all (·.oneCell') = true) := cmd_one _ (by obtain ⟨_, _, e, _⟩ := hni; rw [e]; rfl)
                            have HKa : Hid (Kp (fun _ => False) wr5 wa) := ka
                            clear hni ka HBd
                            go_wp2_with (refine wpList_store_all rfl 35 _ _ rfl 12 wa.heap.size zeroC.toList (cmdA vo0.c nva).toList rfl rfl (by exact Lv.new wa _ _) szCmd rfl rfl HOa.out ?_; intro wb hlb kb; have HKb : Hid (Kp (fun _ => False) wr5 wb) := (HKa.out.alloc _).trans kb (fun b hb e => by go_light; have := HKa.out.size; omega); have hlk := HLk.out wb HKb.out; clear hlb kb)
                            go_roundg (5 - (s + 1))
                            case rel => exact ⟨s + 1, by go_light; omega, by go_light; omega, rfl, by go_num, HK9.out.trans HKb.out (fun _ _ e => e)⟩
                            case measure => (go_light; omega)
                          | some y =>
                            have e1 : bb (plainB B) (s : Int) = some (.int .i64 y.1.ballot) := by unfold bb plainB; rw [hB]; rfl
                            have hyi : y.1.c.id = y.1.ballot := HId.out (s : Int) y.1 (by unfold plainB; rw [hB]; rfl)
                            have HYi : Hid (y.1.c.id = y.1.ballot) := hyi
                            rw [e1, Option.getD_some, Option.isSome_some] at HLk
                            rw [hB, Option.isSome_some, Option.getD_some] at HBd
                            clear hB e1 hyi
                            go_wp2_with fail
                            refine HBd.out.mono ?_
                            rintro e wa ⟨va, rfl, ka, nva, rfl, hni⟩
                            have HOa : Hid ((cmdA y.1.c nva).toList.toArray.all (·.oneCell') = true) := cmd_one _ (by obtain ⟨_, _, e, _⟩ := hni; rw [e]; rfl)
                            have HKa : Hid (Kp (fun _ => False) wr5 wa) := ka
                            clear hni ka HBd
                            go_wp2_with (refine wpList_store_all rfl 35 _ _ rfl 12 wa.heap.size zeroC.toList (cmdA y.1.c nva).toList rfl rfl (by exact Lv.new wa _ _) szCmd rfl rfl HOa.out ?_; intro wb hlb kb; have HKb : Hid (Kp (fun _ => False) wr5 wb) := (HKa.out.alloc _).trans kb (fun b hb e => by go_light; have := HKa.out.size; omega); have hlk := HLk.out wb HKb.out; have v0 : wb.cell? ⟨wa.heap.size, 0, none⟩ = some (.int .i64 y.1.ballot) := hlb.cell (j := 0) (by rw [← HYi.out]; rfl); clear hlb kb)
                            go_roundg (5 - (s + 1))
                            case rel => exact ⟨s + 1, by go_light; omega, by go_light; omega, rfl, by go_num, HK9.out.trans HKb.out (fun _ _ e => e)⟩
                            case measure => (go_light; omega)
                        · go_wp2
                          go_roundg (L - (i + 1))
                          case rel => exact ⟨i + 1, by go_light; omega, by go_light; omega, rfl, by go_num, HKw8.out.trans HK9.out (fun _ _ e => e.elim), HSb8.out.keep HK9.out⟩
                          case measure => (go_light; omega)
              · have HC : Hid (Calls _ _ _ wr3 _) := tpromise_arg hT x.node hnode qv k cqv
                have HSbn : Hid (Sb wr3 t mb mp m (i + 1) D) := ⟨nxt, pr, B, qb, cb, qm, cm, hT, le_next hqb, hnx, hM, le_next hqm, hid, sb_old hpr (fun n' hn' e => by go_light; rw [← HX.out] at e; omega)⟩
                clear hT hqb hnx hM hqm hid hpr HSb7 hnode
                refine HC.out.mono ?_
                rintro e w8 ⟨rfl, hw8⟩
                obtain rfl : w8 = wr3 := hw8
                have HSb8 : Hid (Sb w8 t mb mp m (i + 1) D) := HSbn
                have HKw8 : Hid (Kp (fun b => w.heap.size ≤ b) w w8) := HKw7
                clear HC HSbn HKw7 HFw7 u2
                obtain ⟨nxt, pr, B, qb, cb, qm, cm, hT, hqb, hnx, hM, hqm, hid, hpr⟩ := HSb8.out
                have HT8 : Hid (Tr w8 t mb mp qb 0 cb 0 9 1 nxt pr B (fun _ => none)) := hT
                have HM8 : Hid (Mm w8 m qm cm (bb (plainB B))) := hM
                have HId : Hid (Idb (plainB B)) := hid
                clear hT hM hid hqb hqm hnx hpr
                go_wp2
                go_loopg [18] 4 (fun gk sv wr => ∃ s : Nat, 1 ≤ s ∧ s ≤ 5 ∧ gk = 5 - s ∧ sv = .int .i64 s ∧ Hid (Kp (fun _ => False) w8 wr))
                case atStart => exact ⟨1, by go_light; omega, by go_light; omega, rfl, rfl, Kp.refl _ _⟩
                case round =>
                  obtain ⟨s, hs1, hs5, rfl, rfl, HK9⟩ := hrel
                  obtain ⟨wr5, rfl⟩ : ∃ x, x = wr := ⟨_, rfl⟩
                  by_cases hlt5 : (s : Int) < 5
                  · have HBd : Hid (Calls _ _ _ wr5 _) := tbound_ok (HT8.out.keep HK9.out) (s : Int) (by go_light; omega)
                    have HLk : Hid (∀ u, Kp (fun _ => False) wr5 u → (Instr.lookup 53 (.map (some m)) (.int .i64 (s : Int)) true).run Try.prog u = .ok (.tuple #[((bb (plainB B)) s).getD (.int .i64 0), .bool ((bb (plainB B)) s).isSome]) u) := fun u ku => look_mm_ok uMI zInt ((HM8.out.keep HK9.out id).keep ku id) (s : Int) (z_wf (by go_light; omega))
                    cases hB : B (s : Int) with
                    | none =>
                      have e1 : bb (plainB B) (s : Int) = none := by unfold bb plainB; rw [hB]; rfl
                      rw [e1, Option.getD_none, Option.isSome_none] at HLk
                      rw [hB, Option.isSome_none, Option.getD_none] at HBd
                      clear hB e1
                      go_wp2_with fail
                      refine HBd.out.mono ?_
                      rintro e wa ⟨va, rfl, ka, nva, rfl, hni⟩
                      have HOa : Hid ((cmdA vo0.c nva).toList.toArray.all (·.oneCell') = true) := cmd_one _ (by obtain ⟨_, _, e, _⟩ := hni; rw [e]; rfl)
                      have HKa : Hid (Kp (fun _ => False) wr5 wa) := ka
                      clear hni ka HBd
                      go_wp2_with (refine wpList_store_all rfl 35 _ _ rfl 12 wa.heap.size zeroC.toList (cmdA vo0.c nva).toList rfl rfl (by exact Lv.new wa _ _) szCmd rfl rfl HOa.out ?_; intro wb hlb kb; have HKb : Hid (Kp (fun _ => False) wr5 wb) := (HKa.out.alloc _).trans kb (fun b hb e => by go_light; have := HKa.out.size; omega); have hlk := HLk.out wb HKb.out; clear hlb kb)
                      go_roundg (5 - (s + 1))
                      case rel => exact ⟨s + 1, by go_light; omega, by go_light; omega, rfl, by go_num, HK9.out.trans HKb.out (fun _ _ e => e)⟩
                      case measure => (go_light; omega)
                    | some y =>
                      have e1 : bb (plainB B) (s : Int) = some (.int .i64 y.1.ballot) := by unfold bb plainB; rw [hB]; rfl
                      have hyi : y.1.c.id = y.1.ballot := HId.out (s : Int) y.1 (by unfold plainB; rw [hB]; rfl)
                      have HYi : Hid (y.1.c.id = y.1.ballot) := hyi
                      rw [e1, Option.getD_some, Option.isSome_some] at HLk
                      rw [hB, Option.isSome_some, Option.getD_some] at HBd
                      clear hB e1 hyi
                      go_wp2_with fail
                      refine HBd.out.mono ?_
                      rintro e wa ⟨va, rfl, ka, nva, rfl, hni⟩
                      have HOa : Hid ((cmdA y.1.c nva).toList.toArray.all (·.oneCell') = true) := cmd_one _ (by obtain ⟨_, _, e, _⟩ := hni; rw [e]; rfl)
                      have HKa : Hid (Kp (fun _ => False) wr5 wa) := ka
                      clear hni ka HBd
                      go_wp2_with (refine wpList_store_all rfl 35 _ _ rfl 12 wa.heap.size zeroC.toList (cmdA y.1.c nva).toList rfl rfl (by exact Lv.new wa _ _) szCmd rfl rfl HOa.out ?_; intro wb hlb kb; have HKb : Hid (Kp (fun _ => False) wr5 wb) := (HKa.out.alloc _).trans kb (fun b hb e => by go_light; have := HKa.out.size; omega); have hlk := HLk.out wb HKb.out; have v0 : wb.cell? ⟨wa.heap.size, 0, none⟩ = some (.int .i64 y.1.ballot) := hlb.cell (j := 0) (by rw [← HYi.out]; rfl); clear hlb kb)
                      go_roundg (5 - (s + 1))
                      case rel => exact ⟨s + 1, by go_light; omega, by go_light; omega, rfl, by go_num, HK9.out.trans HKb.out (fun _ _ e => e)⟩
                      case measure => (go_light; omega)
                  · go_wp2
                    go_roundg (L - (i + 1))
                    case rel => exact ⟨i + 1, by go_light; omega, by go_light; omega, rfl, by go_num, HKw8.out.trans HK9.out (fun _ _ e => e.elim), HSb8.out.keep HK9.out⟩
                    case measure => (go_light; omega)
    · by_cases hlt : (j : Int) < (L : Int)
      · have h20 : 16 < (j : Int) := by go_light; omega
        obtain ⟨nv, vv, hDj⟩ := HD.out j (by go_light; omega)
        obtain ⟨b, o, rfl, hbl, hr⟩ := hDj.r
        have hr1 : wr1.rangeAt b (o + j * 16) (dcell (D j) nv vv) := fun i v hv => HKr.out.cellv (hr i v hv) (fun e => absurd (show w.heap.size ≤ b from e) (Nat.not_le_of_lt hbl))
        have HR : Hid (wr1.rangeAt b (o + j * 16) (dcell (D j) nv vv)) := hr1
        have HO : Hid ((dcell (D j) nv vv).toArray.all (·.oneCell') = true) := dc_one _ (by obtain ⟨_, _, e, _⟩ := hDj.n; rw [e]; rfl) (by obtain ⟨_, _, _, e, _⟩ := hDj.v; rw [e]; rfl)
        obtain ⟨xs, hxs⟩ : ∃ xs, xs = dcell (D j) nv vv := ⟨_, rfl⟩
        rw [← hxs] at HR HO
        have HXS : Hid (xs.length = 16) := by show _ = _; rw [hxs]; rfl
        obtain ⟨dv, hdv1, hdv2⟩ := dsDl
        clear hr hr1 hDj hxs hbl hend
        go_wp2_with (first
          | (refine wpList_load_mid rfl 38 _ rfl b (o + j * 16) rfl xs dv HR.out hdv1 hdv2 (by rw [szDl, HXS.out]) ?_)
          | (refine wpList_store_all rfl 38 _ _ rfl 16 wr1.heap.size (dcell dl0 nil0 nil0) xs rfl rfl (by exact Lv.new wr1 _ _) szDl rfl HXS.out HO.out ?_; intro wx hl5 k5; have kn5 : Kp (fun _ => False) wr1 wx := ((Kp.refl (fun _ => False) wr1).alloc _).trans k5 (fun b hb e => by go_light; omega); clear hl5 k5))
        have HSx : Hid (Sb wx t mb mp m j D) := HSb.out.keep kn5
        have HKx : Hid (Kp (fun _ => False) w wx) := (HKr.out.trans kn5 (fun _ _ e => e.elim)).mono (fun b hb e => by go_light; omega)
        clear HSb HKr kn5 HR HO
        obtain ⟨nxt, pr, B, qb, cb, qm, cm, hT, hqb, hnx, hM, hqm, hid, hpr⟩ := HSx.out
        have HNx : Hid (Calls _ _ _ wx _) := tnext_ok hT
        have HBl : Hid (Calls _ _ _ wx _) := tballot_ok hT
        have hn1 : 1 ≤ nxt := hnx
        clear hT hqb hnx hM hqm hid hpr HSx
        refine HNx.out.mono ?_
        rintro e w6 ⟨rfl, hw6⟩
        obtain rfl := hw6.symm
        clear hw6
        go_wp2_with fail
        refine HBl.out.mono ?_
        rintro e w7 ⟨rfl, hw7⟩
        obtain rfl := hw7.symm
        clear hw7
        go_wp2
        go_ret
        exact ⟨rfl, HKx.out⟩
      · obtain ⟨wx, hwx⟩ : ∃ x, x = wr1 := ⟨_, rfl⟩
        have HSx : Hid (Sb wx t mb mp m j D) := by rw [hwx]; exact HSb.out
        have HKx : Hid (Kp (fun _ => False) w wx) := by rw [hwx]; exact HKr.out.mono (fun b hb e => by go_light; omega)
        rw [← hwx]
        clear HSb HKr hend hwx
        go_wp2_with fail
        obtain ⟨nxt, pr, B, qb, cb, qm, cm, hT, hqb, hnx, hM, hqm, hid, hpr⟩ := HSx.out
        have HNx : Hid (Calls _ _ _ wx _) := tnext_ok hT
        have HBl : Hid (Calls _ _ _ wx _) := tballot_ok hT
        have hn1 : 1 ≤ nxt := hnx
        clear hT hqb hnx hM hqm hid hpr HSx
        refine HNx.out.mono ?_
        rintro e w6 ⟨rfl, hw6⟩
        obtain rfl := hw6.symm
        clear hw6
        go_wp2_with fail
        refine HBl.out.mono ?_
        rintro e w7 ⟨rfl, hw7⟩
        obtain rfl := hw7.symm
        clear hw7
        go_wp2
        go_ret
        exact ⟨rfl, HKx.out⟩
end Go.Proofs.Ytjpdbhkggcojaaa
