/- The walk of the law PlaceFair. -/
import Derived.Test.YtgapfkglkmdfgaaHl
namespace Go.Proofs.Ytgapfkglkmdfgaa
set_option linter.unusedVariables false
open Go.RowKit Go.Deep Go.Maps

theorem uII : Try.prog.underlying 34 = some (.map 3 3) := Try.underlying34
theorem zII (w : World) : (zeroValue 3).run Try.prog w = .ok (.int .i64 0) w := by kernel_rfl

theorem msk_rng (a : Int) (q : Nat) : 0 ≤ (msk a 16).getD q 0 ∧ (msk a 16).getD q 0 < 16 := by
  rw [List.getD_eq_getElem?_getD]
  cases h : (msk a 16)[q]? with
  | none => exact ⟨by decide, by decide⟩
  | some z =>
    have hm := List.mem_of_getElem? h
    unfold msk at hm
    simp only [List.mem_map, List.mem_filter, List.mem_range] at hm
    obtain ⟨i, ⟨h1, _⟩, rfl⟩ := hm
    show 0 ≤ (i : Int) ∧ (i : Int) < 16
    omega
theorem trn_rng (a s z : Int) (h : z ∈ trn (msk a 16) s) : 0 ≤ z ∧ z < 16 := by
  unfold trn at h
  rw [rs_msk] at h
  obtain ⟨i, _, rfl⟩ := List.mem_map.1 h
  exact msk_rng a _

set_option maxRecDepth 100000 in
set_option maxHeartbeats 16000000 in
theorem placeFair_walk (a seed n0 : Int) (w : World) :
    Calls Try.prog 5 #[.int .u64 a, .int .i64 seed, .int .i64 n0] w fun e w' => e = .returned (.bool true) ∧ Kp (fun _ => False) w w' := by
  obtain ⟨ti, hi0, hz0, hz1, hz2⟩ := info_parts infoInt
  go_enter Try.func5, Try.ntmps5
  go_wp2
  go_loopg [7, 19] 16 (fun gk rv iv wr => ∃ k : Nat, k ≤ 16 ∧ gk = 16 - k ∧ iv = .int .i64 k ∧ Hid (Kp (fun _ => False) w wr) ∧ Hid (wr.ownsRow w.heap.size 3 1 rv (msk a k).length ((msk a k).map encI)))
  case atStart => exact ⟨0, by omega, rfl, rfl, Kp.refl _ _, World.ownsRow_nil _ _ _ _⟩
  case round =>
    obtain ⟨k, hk, rfl, rfl, HK, HO⟩ := hrel
    by_cases hlt : (k : Int) < 16
    · obtain ⟨bk, hbk⟩ : ∃ bk, bk = bt a (k : Int) := ⟨_, rfl⟩
      have HS : Hid (msk a (k + 1) = if bk then msk a k ++ [(k : Int)] else msk a k) := by rw [hbk]; exact msk_succ a k
      have hbk2 : (bits .and .u64 (a / 2 ^ k) 1 == 1) = bk := by rw [hbk]; rfl
      have HW : Hid (wrap64 ((k : Int) + 1) = ((k + 1 : Nat) : Int)) := by show _ = _; unfold wrap64; omega
      have HLn : Hid ((msk a k).length ≤ 16) := Nat.le_trans (msk_len a k) (by omega)
      obtain ⟨rk, hrk⟩ : ∃ rk, rk = msk a k := ⟨_, rfl⟩
      rw [← hrk] at HS HO HLn
      obtain ⟨qa, ca, hrv, _⟩ := own_fl HO.out
      obtain ⟨n1, hn1⟩ : ∃ n, n = rk.length := ⟨_, rfl⟩
      rw [← hn1] at hrv HO HLn
      subst hrv
      have HN1 : Hid (n1 = rk.length) := hn1
      clear hbk hrk hn1
      cases bk with
      | false =>
        have HO2 : Hid (wr.ownsRow w.heap.size 3 1 (.slice qa n1 ca) (msk a (k + 1)).length ((msk a (k + 1)).map encI)) := by rw [HS.out]; show wr.ownsRow _ _ _ _ rk.length _; rw [← HN1.out]; exact HO.out
        go_wp2
        go_roundg (16 - (k + 1))
        case rel => exact ⟨k + 1, by omega, rfl, by first | rfl | rw [HW.out], HK, HO2⟩
        case measure => omega
      | true =>
        have kn : Kp (fun _ => False) wr (wr.alloc (.cells #[.int .i64 (k : Int)] 3)) := (Kp.refl _ _).alloc _
        have HO1 : Hid ((wr.alloc (.cells #[.int .i64 (k : Int)] 3)).ownsRow w.heap.size 3 1 (.slice qa n1 ca) n1 (rk.map encI)) := ownsRow_keep HO.out kn (fun _ _ => id)
        have HNf : Hid (Src Try.prog 1 22 (.slice (some ⟨wr.heap.size, 0, none⟩) 1 1) 1 [encI (k : Int)] (wr.alloc (.cells #[.int .i64 (k : Int)] 3))) := Src.ofSlice _ Try.underlying22 ⟨wr.heap.size, 0, none⟩ 1 1 [encI (k : Int)] rfl (fun j u hj => by rw [Addr.add_mid, Nat.zero_add]; exact (Lv.new wr #[.int .i64 (k : Int)] 3).cell hj) (fun u hu => by rw [List.mem_singleton] at hu; subst hu; rfl)
        have HSz : Hid (w.heap.size ≤ (wr.alloc (.cells #[.int .i64 (k : Int)] 3)).heap.size) := Nat.le_trans HK.out.size kn.size
        have HKa : Hid (Kp (fun _ => False) w (wr.alloc (.cells #[.int .i64 (k : Int)] 3))) := HK.out.trans kn (fun _ _ e => e)
        clear kn
        go_wp2_with (at_builtin; refine wpList_append_own_src _ rfl _ _ 22 22 rfl w.heap.size 3 ti (.int .i64 0) 1 8 Try.underlying22 hi0 hz0 hz1 hz2 rfl (by decide) (.slice qa n1 ca) n1 (rk.map encI) rfl HO1.out _ 1 [encI (k : Int)] rfl HNf.out (by have := HLn.out; unfold maxLen; omega) (by have := HLn.out; omega) HSz.out ?_; intro v2 w3 hown' hk3 hblk3; have HK3 : Hid (Kp (fun _ => False) w w3) := HKa.out.app HO1.out (grownBy_kp hk3); have HO3 : Hid (w3.ownsRow w.heap.size 3 1 v2 (msk a (k + 1)).length ((msk a (k + 1)).map encI)) := (by rw [HS.out]; show w3.ownsRow _ _ _ _ (rk ++ [(k : Int)]).length ((rk ++ [(k : Int)]).map encI); rw [List.length_append, List.map_append, ← HN1.out]; exact hown'); clear hown' hk3 hblk3)
        go_roundg (16 - (k + 1))
        case rel => exact ⟨k + 1, by omega, rfl, by first | rfl | rw [HW.out], HK3, HO3⟩
        case measure => omega
    · obtain rfl : k = 16 := by omega
      obtain ⟨wr0, rfl⟩ : ∃ x, x = wr := ⟨_, rfl⟩
      obtain ⟨ms, hms⟩ : ∃ ms, ms = msk a 16 := ⟨_, rfl⟩
      have HMs : Hid (ms = msk a 16 ∧ ms.length ≤ 16) := ⟨hms, by rw [hms]; exact msk_len a 16⟩
      rw [← hms] at HO
      obtain ⟨qa, ca, hrv, hfl⟩ := own_fl HO.out
      have HFl : Hid (Fl wr0 (fun b => w.heap.size ≤ b ∧ b < wr0.heap.size) qa (ms.map encI)) := hfl
      obtain ⟨c, hc⟩ : ∃ c, c = ms.length := ⟨_, rfl⟩
      rw [← hc] at hrv
      have HC : Hid (c = ms.length ∧ c ≤ 16) := ⟨hc, by rw [hc]; exact HMs.out.2⟩
      subst hrv
      clear hms hfl HO hc
      by_cases hc0 : c = 0
      · subst hc0
        have HE : Hid (Calls _ _ _ wr0 _) := choose_few _ qa ca ms seed 1 (by omega) (by rw [trn_len, HMs.out.1, rs_msk, ← HMs.out.1, ← HC.out.1]; omega) wr0 HFl.out (by show _ ≤ _; have := HMs.out.2; omega)
        rw [← HC.out.1] at HE
        go_wp2_with fail
        refine HE.out.mono ?_
        rintro e w1 ⟨rfl, k1⟩
        go_wp2
        go_ret
        exact ⟨rfl, HK.out.trans k1 (fun _ _ e => e)⟩
      · have hci : ¬ ((c : Int) = 0) := by omega
        have hb := beg_eq n0 (c := c) (by omega) HC.out.2
        have hbl := beg_lt n0 (c := c) (by omega)
        have hu : IntKind.u64.wrap (c : Int) = (c : Int) := by
          have : IntKind.u64.wrap (c : Int) = (c : Int) % 18446744073709551616 := by simp [IntKind.wrap, IntKind.bits, IntKind.signed]
          have := HC.out.2
          omega
        rw [hu] at hb
        obtain ⟨n, hn⟩ : ∃ n, n = 1 + beg n0 c := ⟨_, rfl⟩
        have hwn : wrap64 (1 + (beg n0 c : Int)) = (n : Int) := by have := HC.out.2; unfold wrap64; omega
        have HN : Hid (1 ≤ n ∧ n ≤ c) := by show _ ∧ _; omega
        have hmm : ∀ (t : TypeId) (w : World), (Instr.makeMap t none).run Try.prog w = .ok (.map (some w.heap.size)) (w.alloc (.map #[] 0)) := fun _ _ => rfl
        obtain ⟨sd, hsd⟩ : ∃ sd : Int, sd = (seed % 18446744073709551616) / 4 := ⟨_, rfl⟩
        have hws : wrap64 (IntKind.u64.wrap seed / 4) = sd := by
          have : IntKind.u64.wrap seed = seed % 18446744073709551616 := by simp [IntKind.wrap, IntKind.bits, IntKind.signed]
          rw [this]; unfold wrap64; omega
        have HSd : Hid (0 ≤ sd ∧ sd < 4611686018427387904) := by show _ ∧ _; omega
        have HCh : Hid (∀ (i : Nat) (u : World), i < c → Kp (fun b => wr0.heap.size ≤ b) wr0 u → Calls Try.prog 8 #[.slice qa c ca, .int .i64 (sd + (i : Int)), .int .i64 (n : Int)] u fun e w' => ∃ g, e = .returned (.tuple #[.slice (some ⟨g, 0, none⟩) n n, .int .i64 0]) ∧ Kp (fun _ => False) u w' ∧ u.heap.size ≤ g ∧ Lv w' g (((trn ms (sd + (i : Int))).take n).map encI)) := fun i u hi ku => by
          have := choose_ok _ qa ca ms (sd + (i : Int)) n (by have := HN.out; have := HC.out; omega) (by rw [trn_len, HMs.out.1, rs_msk, ← HMs.out.1, ← HC.out.1]; exact HN.out.2) u (HFl.out.keep ku (fun b hb e => by omega)) (by show _ ≤ _; have := HMs.out.2; omega)
          rw [← HC.out.1] at this
          exact this
        have HVs : Hid (∀ i : Nat, i < c → vis ms (beg sd c) n (i + 1) = vis ms (beg sd c) n i ++ (trn ms (sd + (i : Int))).take n) := fun i hi => by
          have h1 := trn_take a sd i n HSd.out (by have := HC.out; omega) (by rw [← HMs.out.1, ← HC.out.1]; omega) (by rw [← HMs.out.1, ← HC.out.1]; exact HN.out.2)
          rw [← HMs.out.1, ← HC.out.1] at h1
          exact h1
        have HTl : Hid (∀ i : Nat, i < c → ((trn ms (sd + (i : Int))).take n).length = n) := fun i hi => by
          rw [List.length_take, trn_len, HMs.out.1, rs_msk, ← HMs.out.1, ← HC.out.1]; have := HN.out; omega
        have HEnd : Hid (∀ q : Nat, q < c → (vis ms (beg sd c) n c).count (ms.getD q 0) = n) := fun q hq => by
          have h1 := vis_fair a (beg sd c) n (by rw [← HMs.out.1, ← HC.out.1]; exact beg_lt sd (by omega)) (by rw [← HMs.out.1, ← HC.out.1]; exact HN.out.2) q (by rw [← HMs.out.1, ← HC.out.1]; exact hq)
          rw [← HMs.out.1, ← HC.out.1] at h1
          exact h1
        have HRg : Hid (∀ (i : Nat) (z : Int), z ∈ trn ms (sd + (i : Int)) → 0 ≤ z ∧ z < 16) := fun i z hz => by rw [HMs.out.1] at hz; exact trn_rng a _ z hz
        obtain ⟨V, hV⟩ : ∃ V : Nat → List Int, V = vis ms (beg sd c) n := ⟨_, rfl⟩
        rw [← hV] at HVs HEnd
        have HV0 : Hid (V 0 = []) := by rw [hV]; rfl
        clear hbl hn hsd hV
        go_wp2
        obtain ⟨mp, hmp⟩ : ∃ mp, mp = wr0.heap.size := ⟨_, rfl⟩
        obtain ⟨wm, hwm⟩ : ∃ wm, wm = wr0.alloc (.map #[] 0) := ⟨_, rfl⟩
        have km : Kp (fun _ => False) wr0 wm := by rw [hwm]; exact (Kp.refl _ _).alloc _
        have HM0 : Hid (Mm wm mp 0 0 (cnt (V 0))) := by
          have h1 := Mm.made wr0
          rw [← hwm, ← hmp] at h1
          have : cnt (V 0) = fun _ => none := by rw [HV0.out]; rfl
          rw [this]; exact h1
        have HKm : Hid (Kp (fun b => wr0.heap.size ≤ b) wr0 wm ∧ mp = wr0.heap.size) := ⟨km.mono (fun _ _ e => e.elim), hmp⟩
        rw [← hwm, ← hmp]
        clear hwm hmp km
        go_loopg [58] c (fun gk iv wx => ∃ (i q cc : Nat), i ≤ c ∧ gk = c - i ∧ iv = .int .i64 i ∧ Hid (Kp (fun b => wr0.heap.size ≤ b) wr0 wx) ∧ Hid (Mm wx mp q cc (cnt (V i))) ∧ Hid (q ≤ 20 * i ∧ (V i).length ≤ 20 * i))
        case atStart => exact ⟨0, 0, 0, by omega, rfl, rfl, HKm.out.1, HM0, ⟨Nat.le_refl _, by rw [HV0.out]; exact Nat.le_refl _⟩⟩
        case round =>
          obtain ⟨i, q, cc, hi, rfl, rfl, HKi, HMi, HQ⟩ := hrel
          obtain ⟨wx, rfl⟩ : ∃ x, x = wr := ⟨_, rfl⟩
          by_cases hli : (i : Int) < (c : Int)
          · have hwi : wrap64 (sd + (i : Int)) = sd + (i : Int) := by have := HSd.out; have := HC.out; unfold wrap64; omega
            have HE : Hid (Calls _ _ _ wx _) := HCh.out i wx (by omega) HKi.out
            obtain ⟨tk, htk⟩ : ∃ tk, tk = (trn ms (sd + (i : Int))).take n := ⟨_, rfl⟩
            rw [← htk] at HE
            have HTk : Hid (tk.length = n ∧ V (i + 1) = V i ++ tk) := ⟨by rw [htk]; exact HTl.out i (by omega), by rw [htk]; exact HVs.out i (by omega)⟩
            have HWi : Hid (wrap64 ((i : Int) + 1) = ((i + 1 : Nat) : Int)) := by show _ = _; have := HC.out; unfold wrap64; omega
            have htk2 : Hid (tk = (trn ms (sd + (i : Int))).take n) := htk
            clear htk
            go_wp2_with fail
            refine HE.out.mono ?_
            rintro e w1 ⟨g, rfl, k1, hg, hlv⟩
            have HL1 : Hid (Lv w1 g (tk.map encI)) := hlv
            have HM1 : Hid (Mm w1 mp q cc (cnt (V i))) := HMi.out.keep k1 id
            have HK1 : Hid (Kp (fun b => wr0.heap.size ≤ b) wr0 w1) := HKi.out.trans k1 (fun _ _ e => e.elim)
            have HG : Hid (g ≠ mp) := by show _ ≠ _; have := HMi.out.lt; omega
            clear HE k1 hg hlv
            go_wp2
            go_loopg [80] n (fun gk jv wy => ∃ (j q2 c2 : Nat), j ≤ n ∧ gk = n - j ∧ jv = .int .i64 j ∧ Hid (Kp (fun b => b = mp) w1 wy) ∧ Hid (Mm wy mp q2 c2 (cnt (V i ++ tk.take j))) ∧ Hid (q2 ≤ q + j))
            case atStart => exact ⟨0, q, cc, by omega, rfl, rfl, Kp.refl _ _, by rw [List.take_zero, List.append_nil]; exact HM1, Nat.le_refl _⟩
            case round =>
              obtain ⟨j, q2, c2, hj, rfl, rfl, HKj, HMj, HQ2⟩ := hrel
              obtain ⟨wy, rfl⟩ : ∃ x, x = wr := ⟨_, rfl⟩
              by_cases hlj : (j : Int) < (n : Int)
              · have hjl : j < tk.length := by have := HTk.out.1; omega
                obtain ⟨z, hz⟩ : ∃ z, z = tk[j] := ⟨_, rfl⟩
                have hcz : wy.cell? ⟨g, j, none⟩ = some (.int .i64 z) := by
                  have h1 : Lv wy g (tk.map encI) := HL1.out.keep HKj.out HG.out
                  rw [hz]
                  exact h1.cell (by rw [List.getElem?_map, List.getElem?_eq_getElem hjl]; rfl)
                have hzr : 0 ≤ z ∧ z < 16 := HRg.out i z (List.mem_of_mem_take (by rw [← htk2.out, hz]; exact List.getElem_mem hjl))
                have hlk := look_mm uII zII HMj.out z (z_wf (by omega))
                rw [cnt_get] at hlk
                obtain ⟨ct, hct⟩ : ∃ ct, ct = (V i ++ tk.take j).count z := ⟨_, rfl⟩
                rw [← hct] at hlk
                have HCt : Hid (ct = (V i ++ tk.take j).count z ∧ ct ≤ 1000) := ⟨hct, by
                  have h1 := List.count_le_length (a := z) (l := V i ++ tk.take j)
                  rw [List.length_append, List.length_take] at h1
                  have h2 := HQ.out.2
                  have h3 := HN.out
                  have h4 := HC.out.2
                  omega⟩
                have HTj : Hid (tk.take (j + 1) = tk.take j ++ [z]) := by show _ = _; rw [hz, List.take_succ_eq_append_getElem hjl]
                have hwc : wrap64 ((ct : Int) + 1) = (ct : Int) + 1 := by have := HCt.out.2; unfold wrap64; omega
                have HWj : Hid (wrap64 ((j : Int) + 1) = ((j + 1 : Nat) : Int)) := by show _ = _; have := HN.out; have := HC.out; unfold wrap64; omega
                have HZw : Hid ((Lit.int .i64 z).wf = true) := z_wf (by omega)
                have HQ3 : Hid (q2 < 4611686018427387904) := by show _ < _; have := HQ.out; have := HQ2.out; have := HN.out; have := HC.out; omega
                clear hzr hz hct hjl
                go_wp2_with (refine wpList_put_mm (by rfl) _ _ _ (by rfl) uII mp q2 c2 (cnt (V i ++ tk.take j)) HMj.out (by rfl) HQ3.out z HZw.out (by rfl) (.int .i64 (wrap64 ((ct : Int) + 1))) (by rfl) ?_; intro w4 hm4 k4; have HM4 : Hid (Mm w4 mp (q2 + 1) _ (cnt (V i ++ tk.take (j + 1)))) := (by rw [hwc, HCt.out.1, cnt_upd, List.append_assoc, ← HTj.out] at hm4; exact hm4); have HK4 : Hid (Kp (fun b => b = mp) w1 w4) := HKj.out.trans k4 (fun _ _ e => e); clear hm4 k4)
                go_roundg (n - (j + 1))
                case rel => exact ⟨j + 1, q2 + 1, _, by omega, rfl, by rw [HWj.out], HK4, HM4, by show _ ≤ _; have := HQ2.out; omega⟩
                case measure => omega
              · obtain rfl : j = n := by omega
                have HM5 : Hid (Mm wy mp q2 c2 (cnt (V (i + 1)))) := by
                  have h1 := HMj.out
                  rw [List.take_of_length_le (by have := HTk.out.1; omega), ← HTk.out.2] at h1
                  exact h1
                have HK5 : Hid (Kp (fun b => wr0.heap.size ≤ b) wr0 wy) := HK1.out.trans HKj.out (fun b hb e => by have := HKm.out.2; omega)
                have HQ5 : Hid (q2 ≤ 20 * (i + 1) ∧ (V (i + 1)).length ≤ 20 * (i + 1)) := ⟨by have := HQ2.out; have := HQ.out; have := HN.out; have := HC.out; omega, by rw [HTk.out.2, List.length_append, HTk.out.1]; have := HQ.out; have := HN.out; have := HC.out; omega⟩
                go_wp2
                go_roundg (c - (i + 1))
                case rel => exact ⟨i + 1, q2, c2, by omega, rfl, by rw [HWi.out], HK5, HM5, HQ5⟩
                case measure => omega
          · obtain rfl : i = c := by omega
            have HFx : Hid (Fl wx (fun b => w.heap.size ≤ b ∧ b < wr0.heap.size) qa (ms.map encI)) := HFl.out.keep HKi.out (fun b hb e => by omega)
            have HKe : Hid (Kp (fun _ => False) w wx) := HK.out.trans HKi.out (fun b hb e => by have := HK.out.size; omega)
            clear HCh HVs HTl
            go_wp2
            go_loopg [92] i (fun gk jv wy => ∃ (j : Nat), j ≤ i ∧ gk = i - j ∧ jv = .int .i64 j ∧ wy = wx)
            case atStart => exact ⟨0, by omega, rfl, rfl, rfl⟩
            case round =>
              obtain ⟨j, hj, rfl, rfl, hwy⟩ := hrel
              subst hwy
              by_cases hlj : (j : Int) < (i : Int)
              · have hjl : j < ms.length := by have := HC.out.1; omega
                obtain ⟨b1, o1, rfl, _, e1⟩ := HFx.out j (encI ms[j]) (by rw [List.getElem?_map, List.getElem?_eq_getElem hjl]; rfl)
                obtain ⟨z, hz⟩ : ∃ z, z = ms[j] := ⟨_, rfl⟩
                rw [← hz] at e1
                have hzd : ms.getD j 0 = z := by rw [List.getD_eq_getElem?_getD, List.getElem?_eq_getElem hjl, hz]; rfl
                have hzr : 0 ≤ z ∧ z < 16 := by rw [← hzd, HMs.out.1]; exact msk_rng a j
                have hlk := look_mm uII zII HMi.out z (z_wf (by omega))
                rw [cnt_get, ← hzd, HEnd.out j (by omega), hzd] at hlk
                have HWj : Hid (wrap64 ((j : Int) + 1) = ((j + 1 : Nat) : Int)) := by show _ = _; have := HC.out; unfold wrap64; omega
                clear hzr hzd hz hjl
                go_wp2
                go_roundg (i - (j + 1))
                case rel => exact ⟨j + 1, by omega, rfl, by rw [HWj.out], rfl⟩
                case measure => omega
              · go_wp2
                go_ret
                exact ⟨rfl, HKe.out⟩
end Go.Proofs.Ytgapfkglkmdfgaa
