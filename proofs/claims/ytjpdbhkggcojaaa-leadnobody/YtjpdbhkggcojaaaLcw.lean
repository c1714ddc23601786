/- The walk of the law LeadChooses. -/
import Derived.Test.YtjpdbhkggcojaaaLch
namespace Go.Proofs.Ytjpdbhkggcojaaa
set_option linter.unusedVariables false
open Go.RowKit Go.Deep Go.Maps

theorem ints_fl {w : World} {p : Option Addr} {zs : List Int} (h : Iz w p zs) : Fl w (· < w.heap.size) p (zs.map encI) := fun j u hu => by
  have hj : j < zs.length := by have := (List.getElem?_eq_some_iff.1 hu).1; simpa using this
  obtain ⟨b, o, e, hc⟩ := h j hj
  rw [List.getElem?_map, List.getElem?_eq_getElem hj] at hu
  injection hu with hu
  rw [List.getD_eq_getElem?_getD, List.getElem?_eq_getElem hj] at hc
  subst hu
  exact ⟨b, o, e, World.block_lt_of_cell? _ _ hc, hc⟩

set_option maxRecDepth 100000 in
set_option maxHeartbeats 8000000 in
theorem leadChooses_walk (v : Value) (L : Nat) (a : Int) (w : World) (hv : Ints w v L) :
    Calls Try.prog 6 #[v, .int .i64 a] w fun e w' => e = .returned (.bool true) ∧ Kp (fun _ => False) w w' := by
  obtain ⟨p, c, zs, rfl, hzl, hc, hz, hL⟩ := hv
  have e1 : wrap64 ((IntKind.u64.wrap a).tmod 15) = ((mm 15 a : Nat) : Int) := mm_eq 15 a (by omega) (by omega)
  have l1 := mm_lt 15 a (by omega)
  obtain ⟨N, hN⟩ : ∃ x, x = mm 15 a + 1 := ⟨_, rfl⟩
  have e3 : wrap64 (1 + ((mm 15 a : Nat) : Int)) = (N : Int) := by unfold wrap64; omega
  have hN1 : 1 ≤ (N : Int) := by omega
  have hN15 : (N : Int) ≤ 15 := by omega
  have HF : Hid (Fl w (· < w.heap.size) p (zs.map encI)) := ints_fl hz
  have HLL : Hid (L = zs.length ∧ L * 8 ≤ 140737488355328) := ⟨hzl.symm, hL⟩
  obtain ⟨ti, hi0, hz0, hz1, hz2⟩ := info_parts infoInt
  clear hL hz hzl hc l1 hN
  go_enter Try.func6, Try.ntmps6
  go_wp2
  simp only [e1, e3]
  clear e1 e3
  go_loopg [5, 18] N (fun gk av iv wr => ∃ (k : Nat) (v' : Value), k ≤ N ∧ gk = N - k ∧ iv = .int .i64 k ∧ v' = av ∧ Kp (fun _ => False) w wr ∧ Hid (wr.ownsRow w.heap.size 3 1 v' (k * 2) ((dbl k).map encI)))
  case atStart => exact ⟨0, _, by omega, rfl, rfl, rfl, Kp.refl _ _, World.ownsRow_nil _ _ _ _⟩
  case round =>
    obtain ⟨k, av, hk, rfl, rfl, hav, kr, HO⟩ := hrel
    subst hav
    obtain ⟨wr0, rfl⟩ : ∃ x, x = wr := ⟨_, rfl⟩
    by_cases hlt : (k : Int) < (N : Int)
    · have HO1 : Hid ((wr0.alloc (.cells #[.int .i64 (k : Int), .int .i64 (k : Int)] 3)).ownsRow w.heap.size 3 1 av (k * 2) ((dbl k).map encI)) := HO.out.alloc _
      have hks := kr.size
      have HSz : Hid (w.heap.size ≤ (wr0.alloc (.cells #[.int .i64 (k : Int), .int .i64 (k : Int)] 3)).heap.size) := by show _ ≤ _; simp; omega
      go_wp2_with (at_builtin; go_must (refine wpList_append_own_src _ rfl _ _ 23 23 rfl w.heap.size 3 ti (.int .i64 0) 1 8 Try.underlying23 hi0 hz0 hz1 hz2 rfl (by decide) av (k * 2) ((dbl k).map encI) rfl HO1.out _ 2 [encI (k : Int), encI (k : Int)] rfl ((two_fl wr0 k k).src Try.underlying23 (by decide) rfl (fun u hu => by simp only [List.map_cons, List.map_nil, List.mem_cons, List.not_mem_nil, or_false] at hu; rcases hu with rfl | rfl <;> rfl)) (by unfold maxLen; omega) (by omega) HSz.out ?_); intro v2 w3 hown' hk3 hblk3)
      have k3 : Kp (fun _ => False) w w3 := (kr.alloc _).app HO1.out (grownBy_kp hk3)
      have HO3 : Hid (w3.ownsRow w.heap.size 3 1 v2 ((k + 1) * 2) ((dbl (k + 1)).map encI)) := by
        have e2 : (dbl (k + 1)).map encI = (dbl k).map encI ++ [encI (k : Int), encI (k : Int)] := by show (dbl k ++ [(k : Int), (k : Int)]).map encI = _; rw [List.map_append]; rfl
        rw [e2, show (k + 1) * 2 = k * 2 + 2 by omega]
        exact hown'
      clear hown' hk3 hblk3 HO1
      go_roundg (N - (k + 1))
      case rel => exact ⟨k + 1, _, by omega, rfl, by go_num, rfl, k3, HO3⟩
      case measure => omega
    · obtain rfl : k = N := by omega
      obtain ⟨q, cq, rfl, hfl⟩ := own_fl HO.out
      have HD : Hid (Fl wr0 (· < wr0.heap.size) q ((dbl k).map encI)) := hfl.mono (fun b hb => hb.2)
      have HK0 : Hid (Kp (fun _ => False) w wr0) := kr
      have HN : Hid (Calls _ _ _ wr0 _) := tnew_ok 1 1 wr0 (by omega) (by omega)
      clear hfl HO kr
      go_wp2_with fail
      refine HN.out.mono ?_
      rintro e w1 ⟨t, mb, mp, rfl, k1, ht, hb, hp, hT1⟩
      have HT1 : Hid (Tr w1 t mb mp 0 0 0 0 1 1 1 (List.replicate 16 false) (fun _ => none) (fun _ => none)) := hT1
      have HB : Hid (wr0.heap.size ≤ t ∧ wr0.heap.size ≤ mb ∧ wr0.heap.size ≤ mp) := ⟨ht, hb, hp⟩
      have HP1 : Hid (Calls _ _ _ w1 _) := tpropose_new hT1 3 (by omega) (cid 5) [] nil0 (ni_nil w1 _) rfl (by omega)
      clear hT1 ht hb hp HN
      go_wp2_with fail
      refine HP1.out.mono ?_
      rintro e w2 ⟨rfl, k2, nv2, hT2⟩
      have HT2 : Hid (Tr w2 t mb mp 0 1 0 1 1 1 4 (List.replicate 16 false) (fun _ => none) (updO (fun _ => none) 3 (⟨cid 5, [], List.replicate 16 false⟩, nv2))) := hT2
      have HP2 : Hid (Calls _ _ _ w2 _) := tpropose_other hT2 3 (by omega) (cid 6) [] nil0 (ni_nil w2 _) (⟨cid 5, [], List.replicate 16 false⟩, nv2) (by unfold updO; rw [if_pos rfl]) (show (5 : Int) ≠ 6 by decide)
      have HK2 : Hid (Kp (fun b => b = t ∨ b = mp) wr0 w2) := (k1.mono (fun _ _ e => e.elim)).trans k2 (fun _ _ e => e)
      clear hT2 HP1 k1 k2
      go_wp2_with fail
      refine HP2.out.mono ?_
      rintro e w3 ⟨rfl, k3⟩
      have HT3 : Hid (Tc w3 t mb mp 1 (List.replicate 16 false)) := ⟨nv2, HT2.out.keep k3⟩
      have HK3 : Hid (Kp (fun b => wr0.heap.size ≤ b) wr0 w3) := (HK2.out.mono (fun b _ e => by have := HB.out; rcases e with rfl | rfl <;> omega)).trans k3 (fun _ _ e => e.elim)
      clear HP2 HT2 k3 HK2 HT1
      have hmm : ∀ (t : TypeId) (w : World), (Instr.makeMap t none).run Try.prog w = .ok (.map (some w.heap.size)) (w.alloc (.map #[] 0)) := fun _ _ => rfl
      go_wp2_with fail
      obtain ⟨w4, hw4⟩ : ∃ x, x = w3.alloc (.map #[] 0) := ⟨_, rfl⟩
      rw [← hw4]
      have k4 : Kp (fun _ => False) w3 w4 := by rw [hw4]; exact (Kp.refl _ _).alloc _
      have HM4 : Hid (Mm w4 w3.heap.size 0 0 (metT k (List.replicate 16 false))) := by rw [hw4, rep_none]; exact Mm.made w3
      have HT4 : Hid (Tc w4 t mb mp 1 (List.replicate 16 false)) := HT3.out.keep k4 id id id
      have HK4 : Hid (Kp (fun b => wr0.heap.size ≤ b) wr0 w4) := HK3.out.trans k4 (fun _ _ e => e.elim)
      obtain ⟨m, hm⟩ : ∃ m, m = w3.heap.size := ⟨_, rfl⟩
      rw [← hm] at HM4 ⊢
      have HMb : Hid (wr0.heap.size ≤ m ∧ t ≠ m ∧ mb ≠ m ∧ mp ≠ m) := by
        obtain ⟨nv, hT⟩ := HT3.out
        have := hT.lt
        have := HK3.out.size
        exact ⟨by omega, by omega, by omega, by omega⟩
      clear hw4 hm HT3 HK3 k4
      have hL9 : (L : Int) ≤ 17592186044416 := by have := HLL.out.2; omega
      have HMj : Hid (∀ acc, maj acc (dbl k) = decide (k < 2 * cnt k acc)) := maj_dbl k
      go_loopg [48] L (fun gk iv wr => ∃ j : Nat, j ≤ L ∧ gk = L - j ∧ iv = .int .i64 j ∧ Hid (Kp (fun b => wr0.heap.size ≤ b) wr0 wr) ∧ Hid (∃ acc qp qm, acc.length = 16 ∧ Tc wr t mb mp qp acc ∧ qp ≤ 1 + j ∧ Mm wr m qm (cnt k acc) (metT k acc) ∧ qm ≤ j))
      case atStart => exact ⟨0, by omega, rfl, rfl, HK4, ⟨_, 1, 0, by simp, HT4.out, by omega, by rw [rep_cnt]; exact HM4.out, by omega⟩⟩
      case round =>
        obtain ⟨j, hj, rfl, rfl, HKr, HR⟩ := hrel
        obtain ⟨wr1, rfl⟩ : ∃ x, x = wr := ⟨_, rfl⟩
        obtain ⟨acc, qp, qm, hacc, hTc, hqp, hMm, hqm⟩ := HR.out
        by_cases hlt2 : (j : Int) < (L : Int)
        · have hjz : j < zs.length := by rw [← HLL.out.1]; omega
          obtain ⟨bb, off, rfl, hbb, hcl⟩ := HF.out j (encI zs[j]) (by rw [List.getElem?_map, List.getElem?_eq_getElem hjz]; rfl)
          obtain ⟨z, hz⟩ : ∃ z, z = zs[j] := ⟨_, rfl⟩
          have hc0 := HK0.out.cellv hcl id
          have hcx : wr1.cell? ⟨bb, off + j, none⟩ = some (.int .i64 z) := by rw [hz]; exact HKr.out.cellv hc0 (fun e => absurd (show wr0.heap.size ≤ bb from e) (Nat.not_le_of_lt (World.block_lt_of_cell? _ _ hc0)))
          clear hcl hz hc0 hbb hjz
          have e1 : wrap64 ((IntKind.u64.wrap z).tmod 16) = ((mm 16 z : Nat) : Int) := mm_eq 16 z (by omega) (by omega)
          have l1 := mm_lt 16 z (by omega)
          obtain ⟨n, hn⟩ : ∃ n, n = mm 16 z := ⟨_, rfl⟩
          rw [← hn] at e1 l1
          have hn16 : (n : Int) < 16 := by omega
          have HA : Hid (Calls _ _ _ wr1 _) := tc_acc hTc n l1 (by omega)
          have HMm : Hid (Mm wr1 m qm (cnt k acc) (metT k acc)) := hMm
          have HAcc : Hid (acc.length = 16 ∧ n < 16) := ⟨hacc, l1⟩
          have HQ : Hid (qp ≤ 1 + j ∧ qm ≤ j) := ⟨hqp, hqm⟩
          clear hn l1 hTc hMm hacc hqp hqm HR
          go_wp2_with fail
          refine HA.out.mono ?_
          rintro e w5 ⟨rfl, k5, hT5⟩
          have HT5 : Hid (Tc w5 t mb mp (qp + 1) (acc.set n true)) := hT5
          have HM5 : Hid (Mm w5 m qm (cnt k acc) (metT k acc)) := HMm.out.keep k5 (fun e => HMb.out.2.2.2 e.symm)
          have HK5 : Hid (Kp (fun b => wr0.heap.size ≤ b) wr0 w5) := HKr.out.trans k5 (fun b _ e => by have := HB.out; omega)
          clear hT5 HA HMm k5 HKr
          by_cases hnk : (n : Int) < (k : Int)
          · have HPut : Hid (∀ u', Mm u' m (qm + 1) (cnt k acc + (if (metT k acc n).isSome then 0 else 1)) (upd (metT k acc) n (.bool true)) → Mm u' m (qm + 1) (cnt k (acc.set n true)) (metT k (acc.set n true))) := fun u' hu' => by
              rw [metT_set k acc HAcc.out.1 n HAcc.out.2 (by omega), met_put HAcc.out.1 HAcc.out.2 (by omega) rfl] at hu'
              exact hu'
            go_wp2_with (at_mapUpdate; go_must (refine wpList_put_mm rfl _ _ _ rfl uMB m qm (cnt k acc) (metT k acc) HM5.out rfl (by have := HQ.out; omega) (n : Int) (z_wf (by omega)) rfl (.bool true) rfl ?_); intro w6 hm6 k6; have HM6 : Hid (Mm w6 m (qm + 1) (cnt k (acc.set n true)) (metT k (acc.set n true))) := HPut.out w6 hm6; have HT6 : Hid (Tc w6 t mb mp (qp + 1) (acc.set n true)) := HT5.out.keep k6 HMb.out.2.1 HMb.out.2.2.1 HMb.out.2.2.2; have HK6 : Hid (Kp (fun b => wr0.heap.size ≤ b) wr0 w6) := HK5.out.trans k6 (fun b _ e => by have := HMb.out; omega); have HQ6 : Hid (qm + 1 ≤ j + 1) := (by show _ ≤ _; have := HQ.out; omega); clear hm6 k6 HPut HT5 HM5 HK5)
            have HC3 : Hid (∀ u, Kp (fun _ => False) w6 u → Calls _ _ _ u _) := fun u ku => tc_cho (HT6.out.keep ku id id id) q cq (k * 2) (dbl k) (by rw [dbl_len]) ((HD.out.keep HK6.out (fun b hb e => by have : b < wr0.heap.size := hb; omega)).keep ku (fun _ _ => id)).here (by rw [dbl_len]; omega)
            have HC2 : Hid (∀ u, Kp (fun _ => False) w6 u → Calls _ _ _ u _) := fun u ku => tc_cho2 (HT6.out.keep ku id id id) q cq (k * 2) (dbl k) (by rw [dbl_len]) ((HD.out.keep HK6.out (fun b hb e => by have : b < wr0.heap.size := hb; omega)).keep ku (fun _ _ => id)).here (by rw [dbl_len]; omega) (by rw [HMj.out, rep_cnt]; rfl)
            have HLn : Hid (∀ u, Kp (fun _ => False) w6 u → ∀ ty, (Builtin.len_ #[58] ty #[.map (some m)]).run Try.prog u = .ok (.int .i64 ((cnt k (acc.set n true) : Nat) : Int)) u) := fun u ku ty => len_mm uMB (HM6.out.keep ku id) ty
            obtain ⟨mj, hmj⟩ : ∃ mj, mj = maj (acc.set n true) (dbl k) := ⟨_, rfl⟩
            rw [← hmj] at HC3
            obtain ⟨cc, hcc⟩ : ∃ cc, cc = cnt k (acc.set n true) := ⟨_, rfl⟩
            have hcc15 : (cc : Int) ≤ 15 := by have := cnt_le k (acc.set n true); omega
            have hdm : decide ((k : Int) < 2 * (cc : Int)) = mj := by
              rw [hmj, HMj.out, ← hcc]
              by_cases h : k < 2 * cc
              · rw [decide_eq_true h, decide_eq_true (by omega)]
              · rw [decide_eq_false h, decide_eq_false (by omega)]
            have hw2 : wrap64 (2 * (cc : Int)) = 2 * (cc : Int) := by unfold wrap64; omega
            rw [← hcc] at HLn
            clear hmj hcc
            refine (HC3.out _ (Kp.refl _ _)).mono ?_
            rintro e w7 ⟨rfl, k7⟩
            have hln := HLn.out w7 k7
            clear HC3 HLn
            go_wp2_with fail
            refine (HC2.out _ k7).mono ?_
            rintro e w8 ⟨rfl, k8⟩
            have k68 := k7.trans k8 (fun _ _ e => e)
            have HM8 : Hid (Mm w8 m (qm + 1) (cnt k (acc.set n true)) (metT k (acc.set n true))) := HM6.out.keep k68 id
            have HT8 : Hid (Tc w8 t mb mp (qp + 1) (acc.set n true)) := HT6.out.keep k68 id id id
            have HK8 : Hid (Kp (fun b => wr0.heap.size ≤ b) wr0 w8) := HK6.out.trans k68 (fun _ _ e => e.elim)
            clear HC2 hln k7 k8 k68 HM6 HT6 HK6
            go_wp2
            go_roundg (L - (j + 1))
            case rel => exact ⟨j + 1, by omega, rfl, by go_num, HK8, ⟨acc.set n true, qp + 1, (qm + 1), by rw [List.length_set]; exact HAcc.out.1, HT8.out, by have := HQ.out; omega, HM8.out, HQ6.out⟩⟩
            case measure => omega
          · have HM6 : Hid (Mm w5 m qm (cnt k (acc.set n true)) (metT k (acc.set n true))) := by
              have e2 : cnt k (acc.set n true) = cnt k acc := by rw [cnt_set k acc HAcc.out.1 n HAcc.out.2, if_neg (fun e => by omega), Nat.add_zero]
              rw [e2, ← metT_skip k acc HAcc.out.1 n HAcc.out.2 (by omega)]
              exact HM5.out
            obtain ⟨w6, hw6⟩ : ∃ x, x = w5 := ⟨_, rfl⟩
            rw [← hw6] at HM6 ⊢
            have HT6 : Hid (Tc w6 t mb mp (qp + 1) (acc.set n true)) := by rw [hw6]; exact HT5.out
            have HK6 : Hid (Kp (fun b => wr0.heap.size ≤ b) wr0 w6) := by rw [hw6]; exact HK5.out
            have HQ6 : Hid (qm ≤ j + 1) := by show _ ≤ _; have := HQ.out; omega
            clear hw6 HT5 HM5 HK5
            go_wp2_with fail
            have HC3 : Hid (∀ u, Kp (fun _ => False) w6 u → Calls _ _ _ u _) := fun u ku => tc_cho (HT6.out.keep ku id id id) q cq (k * 2) (dbl k) (by rw [dbl_len]) ((HD.out.keep HK6.out (fun b hb e => by have : b < wr0.heap.size := hb; omega)).keep ku (fun _ _ => id)).here (by rw [dbl_len]; omega)
            have HC2 : Hid (∀ u, Kp (fun _ => False) w6 u → Calls _ _ _ u _) := fun u ku => tc_cho2 (HT6.out.keep ku id id id) q cq (k * 2) (dbl k) (by rw [dbl_len]) ((HD.out.keep HK6.out (fun b hb e => by have : b < wr0.heap.size := hb; omega)).keep ku (fun _ _ => id)).here (by rw [dbl_len]; omega) (by rw [HMj.out, rep_cnt]; rfl)
            have HLn : Hid (∀ u, Kp (fun _ => False) w6 u → ∀ ty, (Builtin.len_ #[58] ty #[.map (some m)]).run Try.prog u = .ok (.int .i64 ((cnt k (acc.set n true) : Nat) : Int)) u) := fun u ku ty => len_mm uMB (HM6.out.keep ku id) ty
            obtain ⟨mj, hmj⟩ : ∃ mj, mj = maj (acc.set n true) (dbl k) := ⟨_, rfl⟩
            rw [← hmj] at HC3
            obtain ⟨cc, hcc⟩ : ∃ cc, cc = cnt k (acc.set n true) := ⟨_, rfl⟩
            have hcc15 : (cc : Int) ≤ 15 := by have := cnt_le k (acc.set n true); omega
            have hdm : decide ((k : Int) < 2 * (cc : Int)) = mj := by
              rw [hmj, HMj.out, ← hcc]
              by_cases h : k < 2 * cc
              · rw [decide_eq_true h, decide_eq_true (by omega)]
              · rw [decide_eq_false h, decide_eq_false (by omega)]
            have hw2 : wrap64 (2 * (cc : Int)) = 2 * (cc : Int) := by unfold wrap64; omega
            rw [← hcc] at HLn
            clear hmj hcc
            refine (HC3.out _ (Kp.refl _ _)).mono ?_
            rintro e w7 ⟨rfl, k7⟩
            have hln := HLn.out w7 k7
            clear HC3 HLn
            go_wp2_with fail
            refine (HC2.out _ k7).mono ?_
            rintro e w8 ⟨rfl, k8⟩
            have k68 := k7.trans k8 (fun _ _ e => e)
            have HM8 : Hid (Mm w8 m qm (cnt k (acc.set n true)) (metT k (acc.set n true))) := HM6.out.keep k68 id
            have HT8 : Hid (Tc w8 t mb mp (qp + 1) (acc.set n true)) := HT6.out.keep k68 id id id
            have HK8 : Hid (Kp (fun b => wr0.heap.size ≤ b) wr0 w8) := HK6.out.trans k68 (fun _ _ e => e.elim)
            clear HC2 hln k7 k8 k68 HM6 HT6 HK6
            go_wp2
            go_roundg (L - (j + 1))
            case rel => exact ⟨j + 1, by omega, rfl, by go_num, HK8, ⟨acc.set n true, qp + 1, qm, by rw [List.length_set]; exact HAcc.out.1, HT8.out, by have := HQ.out; omega, HM8.out, HQ6.out⟩⟩
            case measure => omega
        · have HNx : Hid (Calls _ _ _ wr1 _) := tc_next hTc
          have HKe : Hid (Kp (fun _ => False) w wr1) := HK0.out.trans HKr.out (fun b hb e => by have := HK0.out.size; omega)
          clear hTc hMm
          go_wp2_with (go_at_call 26; refine HNx.out.mono ?_; rintro e w' ⟨rfl, hw'⟩; obtain rfl := hw'.symm; clear hw')
          go_ret
          exact ⟨rfl, HKe.out⟩
end Go.Proofs.Ytjpdbhkggcojaaa
