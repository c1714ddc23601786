/- VoteKeeps: the walk (laid by scripts/mkvrq.py). -/
import Derived.Test.YtippipeebkkghaaGreatDoorVrp
import Derived.Lib.MinMax
import Derived.Handy
import Derived.BigQuiet
namespace Go.Proofs.YtippipeebkkghaaGreatDoor
set_option linter.unusedVariables false
set_option linter.unusedSimpArgs false
open Go.RowKit Go.Deep Go.Maps

set_option maxRecDepth 100000 in
set_option maxHeartbeats 12800000 in
theorem voteKeeps_walk (v : Value) (L : Nat) (w : World) (hl : Dos11 w v L) (ht : Turns w) :
    Calls Tryz.prog 3 #[v] w fun e w' => e = .returned (.bool true) ∧ Kp (fun _ => False) w w' := by
  obtain ⟨⟨gA, gb, go, cap, rfl, hgA, hE⟩, hmany⟩ := hl
  have HBg : Hid (Calls _ _ _ w _) := vbegin_ok ht
  have HE : Hid (∀ r, r < L → ∃ (op bl sl tn nn : Int) (cs : List Value) (mk : Int), Do11 w gb (go + r * 18) op bl sl tn nn cs mk) := hE
  have HGa : Hid (0 < L → gA = some ⟨gb, go, none⟩) := hgA
  have HT : Hid (Turns w ∧ (0 : Nat) < w.heap.size) := ⟨ht, World.block_lt_of_cell? _ _ (ht 0 (by decide))⟩
  have hmm : ∀ (t : TypeId) (w : World), (Instr.makeMap t none).run Tryz.prog w = .ok (.map (some w.heap.size)) (w.alloc (.map #[] 0)) := fun _ _ => rfl
  clear hE hgA ht
  go_enter Tryz.func3, Tryz.ntmps3
  go_wp2_with fail
  refine HBg.out.mono ?_
  rintro e9 w1 ⟨pb, ac0, sh0, mp0, g0, bp, d, m, gf0, rfl, hA0⟩
  obtain ⟨mv, hmv⟩ : ∃ y, y = w1.heap.size := ⟨_, rfl⟩
  obtain ⟨w2, hw2⟩ : ∃ y, y = w1.alloc (.map #[] 0) := ⟨_, rfl⟩
  have k2 : Kp (fun _ => False) w1 w2 := by rw [hw2]; exact (Kp.refl _ _).alloc _
  have m2 : Mm w2 mv 0 0 (fun _ => none) := by rw [hw2, hmv]; exact Mm.made w1
  have HR0 : Hid (R11 w w2 pb mv 0 ac0 sh0 mp0 g0 bp d m gf0 1 0 [] 0 (fun _ => 0)) := by
    have a2 := (hA0 mv).keep0 k2
    have hb := (hA0 mv).blk
    obtain ⟨ax, x3, hlp⟩ := (hA0 mv).lp
    have hpl := hlp.lt (by simp)
    have hcl := World.block_lt_of_cell? _ _ (hA0 mv).c
    have hcl : ac0 < w1.heap.size := hcl
    have hk1 := (hA0 mv).k.size
    refine ⟨a2, ?_, ⟨fun e => by have := hb.1 mv e; omega, by omega, by omega, by have := hb.2.1; omega, by have := hb.2.2; omega⟩, by omega⟩
    rw [TV_nil]
    exact m2
  have HPm : Hid (d < w1.heap.size ∧ m < w1.heap.size) := ⟨(hA0 mv).blk.1 d (Or.inl rfl), (hA0 mv).blk.1 m (Or.inr (Or.inl rfl))⟩
  clear k2 m2 hA0 HBg HPm
  go_upto_region 6 with fail
  rw [← hw2, ← hmv]
  clear hw2 hmv hmm
  go_wp2_with fail
  go_loopg [4, 27] L (fun gk hv iv wr => ∃ (j hi q ac sh mp g gf b N : Nat) (h : List Rc) (V : Nat → Nat), j ≤ L ∧ gk = L - j ∧ hv = .int .i64 (hi : Int) ∧ iv = .int .i64 (j : Int) ∧ Hid (R11 w wr pb mv q ac sh mp g bp d m gf b N h hi V ∧ (N ≤ 3 * j ∧ b ≤ j + 1 ∧ q ≤ j) ∧ j ≤ 31))
  case atStart => exact ⟨0, 0, 0, _, _, _, _, _, _, _, _, _, Nat.zero_le _, rfl, rfl, rfl, HR0.out, ⟨Nat.le_refl _, Nat.le_refl _, Nat.le_refl _⟩, by omega⟩
  case round =>
    obtain ⟨j, hi, q, ac, sh, mp, g, gf, b, N, h, V, hj, rfl, rfl, rfl, HR⟩ := hrel
    by_cases hlt : j < L
    · have hlt2 : (j : Int) < (L : Int) := by omega
      obtain ⟨op, bl, sl, tn, nn, cs, mk, hdo⟩ := HE.out j hlt
      have hgA := HGa.out (by omega)
      subst hgA
      have HDo : Hid (Do11 w gb (go + j * 18) op bl sl tn nn cs mk) := hdo
      have HRg : Hid (wr.rangeAt gb (go + j * 18) (doL op bl sl tn nn cs mk)) := fun r u hu => HR.out.1.a.k.cellv (hdo.c r u hu) id
      have HLn : Hid ((doL op bl sl tn nn cs mk).length = 18) := doL_len hdo.l
      have HOn : Hid ((doL op bl sl tn nn cs mk).toArray.all (·.oneCell') = true) := doL_one hdo.u
      obtain ⟨dd, hd1, hd2⟩ := dsDo11
      have HJ : Hid (j < L) := hlt
      have hwj : wrap64 ((j : Int) + 1) = ((j + 1 : Nat) : Int) := by have := HR.out.2.2; unfold wrap64; omega
      obtain ⟨q7, hq7⟩ : ∃ y, y = wr.heap.size := ⟨_, rfl⟩
      by_cases hj30 : j > 30
      · have h30 : (30 : Int) < (j : Int) := by omega
        have HKf : Hid (Kp (fun _ => False) w wr) := HR.out.1.a.k
        clear hdo hlt
        go_wp2_with (first
          | (refine wpList_load_mid rfl 34 _ rfl gb (go + j * 18) rfl _ dd HRg.out hd1 hd2 (by rw [sizeDo11, HLn.out]) ?_)
          | (refine wpList_store_all rfl 34 _ _ rfl 18 wr.heap.size zeroDo11 (doL op bl sl tn nn cs mk) rfl rfl (by exact Lv.new wr _ _) sizeDo11 rfl HLn.out HOn.out ?_; intro w3 l3 k3))
        have HK3 : Hid (Kp (fun _ => False) w w3) := HKf.out.trans (((Kp.refl (fun _ => False) wr).alloc _).trans k3 (fun b hb e => by have e' : b = wr.heap.size := e; omega)) (fun _ _ e => e)
        clear l3 k3 HR
        go_ret
        exact ⟨rfl, HK3.out⟩
      · have h30 : ¬ (30 : Int) < (j : Int) := by omega
        have HJ30 : Hid (j ≤ 30) := by show _ ≤ _; omega
        clear hlt hj30 hdo
        go_wp2_with (first
          | (refine wpList_load_mid rfl 34 _ rfl gb (go + j * 18) rfl _ dd HRg.out hd1 hd2 (by rw [sizeDo11, HLn.out]) ?_)
          | (refine wpList_store_all rfl 34 _ _ rfl 18 wr.heap.size zeroDo11 (doL op bl sl tn nn cs mk) rfl rfl (by exact Lv.new wr _ _) sizeDo11 rfl HLn.out HOn.out ?_; intro w3 l3 k3))
        have hk3 : Kp (fun _ => False) wr w3 := ((Kp.refl (fun _ => False) wr).alloc _).trans k3 (fun b hb e => by have e' : b = wr.heap.size := e; omega)
        have HR3 : Hid (R11 w w3 pb mv q ac sh mp g bp d m gf b N h hi V ∧ (N ≤ 3 * j ∧ b ≤ j + 1 ∧ q ≤ j)) := ⟨HR.out.1.keep0 hk3, HR.out.2.1⟩
        have HL3 : Hid (Lv w3 q7 (doL op bl sl tn nn cs mk) ∧ wr.heap.size ≤ q7 ∧ q7 < w3.heap.size ∧ cs.length = 12) := ⟨by rw [hq7]; exact l3, by omega, by rw [hq7]; exact l3.lt (by simp), HDo.out.l⟩
        have HQn : Hid (∀ v, SW6 sh mp g m gf d v → v < q7) := fun v hv => by have h1 := HR.out.1.a.blk.1 v hv; have h2 := HL3.out.2.1; omega
        have HQp : Hid (pb < q7 ∧ bp < q7 ∧ mv < q7) := by
          obtain ⟨ax, x3, hlp⟩ := HR.out.1.a.lp
          have h1 := hlp.lt (by simp)
          have h2 := HR.out.1.a.blk.2.1
          have h3 := HR.out.1.mm.lt
          have h4 := HL3.out.2.1
          exact ⟨by omega, by omega, by omega⟩
        rw [← hq7]
        have d0 : w3.cell? ⟨q7, 0, none⟩ = some (.int .i64 op) := HL3.out.1.cell (j := 0) rfl
        have d1 : w3.cell? ⟨q7, 1, none⟩ = some (.int .i64 bl) := HL3.out.1.cell (j := 1) rfl
        have d2 : w3.cell? ⟨q7, 2, none⟩ = some (.int .i64 sl) := HL3.out.1.cell (j := 2) rfl
        clear l3 k3 hk3 HR HRg HLn HOn hq7 hd1 hd2
        obtain ⟨f20, e20, hf20⟩ := md20 bl
        obtain ⟨f5, e5, hf5⟩ := md5 sl
        obtain ⟨f4, e4, hf4⟩ := md4 op
        obtain ⟨bt, hbt⟩ : ∃ y : Nat, y = 1 + f20 := ⟨_, rfl⟩
        obtain ⟨s, hs⟩ : ∃ y : Nat, y = 1 + f5 := ⟨_, rfl⟩
        have HBt : Hid ((1 ≤ bt ∧ bt ≤ 20) ∧ (1 ≤ s ∧ s ≤ 5)) := ⟨⟨by omega, by omega⟩, ⟨by omega, by omega⟩⟩
        have eb : wrap64 (1 + (f20 : Int)) = (bt : Int) := by unfold wrap64; omega
        have es : wrap64 (1 + (f5 : Int)) = (s : Int) := by unfold wrap64; omega
        have Heb : Hid (1 + (f20 : Int) = (bt : Int) ∧ 1 + (f5 : Int) = (s : Int)) := ⟨by omega, by omega⟩
        have Heb1 : Hid (wrap64 (1 + (f20 : Int)) = (bt : Int) ∧ wrap64 (1 + (f5 : Int)) = (s : Int)) := ⟨eb, es⟩
        have H4 : Hid (wrap64 ((IntKind.u64.wrap op).tmod 4) = (f4 : Int) ∧ f4 ≤ 3) := ⟨e4, hf4⟩
        have H205 : Hid (wrap64 ((IntKind.u64.wrap bl).tmod 20) = (f20 : Int) ∧ wrap64 ((IntKind.u64.wrap sl).tmod 5) = (f5 : Int)) := ⟨e20, e5⟩
        clear hbt hs eb es e4 hf4 hf20 hf5 e20 e5
        go_cut [8, 9] (fun v8 v9 wz => v8 = .int .i64 (bt : Int) ∧ v9 = .int .i64 (s : Int) ∧ Hid (Kp (fun _ => False) w3 wz))
        case first =>
          have kd : Kp (fun _ => False) w3 w3.drew := (Kp.refl _ _).drew
          clear HR3 HL3 HQn HQp HDo HE HGa HT HR0
          go_region
          all_goals
            go_wp2_with fail
            go_meet
            exact ⟨by rw [H205.out.1, Heb1.out.1], by rw [H205.out.2, Heb1.out.2], kd⟩
        case rest =>
          obtain ⟨rfl, rfl, HKc⟩ := hcut
          have HR4 : Hid (R11 w wc pb mv q ac sh mp g bp d m gf b N h hi V ∧ (N ≤ 3 * j ∧ b ≤ j + 1 ∧ q ≤ j)) := ⟨HR3.out.1.keep0 HKc.out, HR3.out.2⟩
          have HL4 : Hid (Lv wc q7 (doL op bl sl tn nn cs mk)) := HL3.out.1.keep HKc.out id
          have x0 : wc.cell? ⟨q7, 0, none⟩ = some (.int .i64 op) := HL4.out.cell (j := 0) rfl
          clear HR3 HKc d0 d1 d2 Heb Heb1 H205
          rcases (by have := H4.out.2; omega : f4 = 0 ∨ f4 = 1 ∨ f4 = 2 ∨ f4 = 3) with rfl | rfl | rfl | rfl
          · have e4 : wrap64 ((IntKind.u64.wrap op).tmod 4) = 0 := H4.out.1
            obtain ⟨Z, hsz, hz1, hz2⟩ := HR4.out.1.a.s
            have HZ : Hid (¬ Z pb ∧ ¬ Z mv) := ⟨hz1, hz2⟩
            have t0 := HR4.out.1.pa.1
            have HPp : Hid (Calls _ _ _ wc _) := prepare_ok hsz HR4.out.1.a.hs HR4.out.1.a.c HR4.out.1.a.na bt s HBt.out.1 ⟨HBt.out.2.1, by have := HBt.out.2.2; omega⟩ (by have := HR4.out.2; have := HJ30.out; omega)
            clear hsz hz1 hz2
            go_wp2_with fail
            refine HPp.out.mono ?_
            rintro e9 wx (⟨hlt9, ⟨v9, rfl⟩, kx⟩ | ⟨hle9, ⟨v9, rfl⟩, kx, hRx⟩)
            · have hge : ¬ ((hi : Int) ≤ (bt : Int)) := by omega
              have hmx : max (hi : Int) (bt : Int) = (hi : Int) := Int.max_eq_left (by omega)
              have HRn : Hid (R11 w wx pb mv q ac sh mp g bp d m gf b N h hi V ∧ (N ≤ 3 * (j + 1) ∧ b ≤ j + 1 + 1 ∧ q ≤ j + 1)) := ⟨HR4.out.1.keep0 kx, by have := HR4.out.2; omega⟩
              clear kx hlt9 HPp HZ t0 x0 HR4 HL4 e4
              have t0 := HRn.out.1.pa.1
              have HPm : Hid (Calls _ _ _ wx _) := HRn.out.1.prm
              go_wp2_with fail
              refine HPm.out.mono ?_
              rintro e9 y1 ⟨rfl, ky1⟩
              have HR1 : Hid (R11 w y1 pb mv q ac sh mp g bp d m gf b N h hi V) := HRn.out.1.keep0 ky1
              have t1 := HR1.out.pa.1
              have hv1 := HR1.out.vts
              obtain ⟨C, hC⟩ : ∃ C, C = cntV V := ⟨_, rfl⟩
              have HC : Hid (C = cntV V ∧ C ≤ 5) := ⟨hC, by rw [hC]; exact cntV_le _⟩
              rw [← hC] at hv1
              have HV1 : Hid (Calls _ _ _ y1 _) := hv1
              clear ky1 HPm t0 hv1
              go_wp2_with fail
              refine HV1.out.mono ?_
              rintro e9 y2 ⟨p1, c1, l1, rfl, ky2, _⟩
              have HR2 : Hid (R11 w y2 pb mv q ac sh mp g bp d m gf b N h hi V) := HR1.out.keep0 ky2
              have t2 := HR2.out.pa.1
              have hln := len_mm uII11 HR2.out.mm 3
              have hv2 := HR2.out.vts
              rw [← hC] at hv2 hln
              have HV2 : Hid (Calls _ _ _ y2 _) := hv2
              clear ky2 HV1 t1 hv2 hC
              go_wp2_with fail
              refine HV2.out.mono ?_
              rintro e9 y3 ⟨p2, c2, l2, rfl, ky3, hf, hlen, hel⟩
              have HR3 : Hid (R11 w y3 pb mv q ac sh mp g bp d m gf b N h hi V) := HR2.out.keep0 ky3
              have HF3 : Hid (Fl y3 (fun b => y2.heap.size ≤ b ∧ b < y3.heap.size) p2 (vflat l2) ∧ l2.length = C) := ⟨hf, hlen⟩
              have HEl : Hid (∀ y ∈ l2, ∃ s8 : Nat, (1 ≤ s8 ∧ s8 ≤ 5) ∧ V s8 ≠ 0 ∧ y.1 = voI (s8 : Int) (V s8) ∧ y.2.oneCell' = true) := hel
              clear ky3 hf hlen hel HV2 t2 hln
              go_wp2_with fail
              go_loopg [170] C (fun gk iv wz => ∃ i : Nat, i ≤ C ∧ gk = C - i ∧ iv = .int .i64 (i : Int) ∧ Hid (Kp (fun _ => False) y3 wz))
              case atStart => exact ⟨0, Nat.zero_le _, rfl, rfl, Kp.refl _ _⟩
              case round =>
                obtain ⟨i, hi9, rfl, rfl, HKi⟩ := hrel
                by_cases hlt9 : i < C
                · have hlt8 : (i : Int) < (C : Int) := by omega
                  have hil : i < l2.length := by rw [HF3.out.2]; exact hlt9
                  obtain ⟨gv, ov, rfl, hrg⟩ := fl_range HF3.out.1 hil
                  obtain ⟨s9, hs9, hv9, e9, h19⟩ := HEl.out l2[i] (List.getElem_mem hil)
                  obtain ⟨nv, hnv⟩ : ∃ nv, nv = l2[i].2 := ⟨_, rfl⟩
                  rw [e9, ← hnv] at hrg
                  rw [← hnv] at h19
                  obtain ⟨b9, hb9⟩ : ∃ y, y = V s9 := ⟨_, rfl⟩
                  have HMv : Hid (∀ z, Kp (fun _ => False) y3 z → (Instr.lookup 25 (.map (some mv)) (.int .i64 (s9 : Int)) false).run Tryz.prog z = .ok (.int .i64 (b9 : Int)) z) := fun z k => by
                    have h9 := look_mm uII11 zII11 (HR3.out.mm.keep k id) (s9 : Int) (z_wf (by omega))
                    have e8 : ((s9 : Int)).toNat = s9 := by omega
                    rw [TV_at ⟨by omega, by omega, by rw [e8]; exact hv9⟩, e8, ← hb9] at h9
                    exact h9
                  rw [← hb9] at hrg
                  have HRg9 : Hid (∀ wz, Kp (fun _ => False) y3 wz → wz.rangeAt gv (ov + i * 14) (vcell (voI (s9 : Int) b9) nv)) := fun wz k r u hu => k.cellv (hrg r u hu) id
                  have HOv : Hid ((vcell (voI (s9 : Int) b9) nv).toArray.all (·.oneCell') = true) := vcell_one _ h19
                  obtain ⟨dv, hdv1, hdv2⟩ := dsVote
                  have hwi : wrap64 ((i : Int) + 1) = ((i + 1 : Nat) : Int) := by have := HC.out; unfold wrap64; omega
                  have HI9 : Hid (i < C) := hlt9
                  clear hil hrg e9 h19 hnv hb9 hv9 hlt9 hs9
                  go_wp2_with (first
                    | (refine wpList_load_mid rfl 59 _ rfl gv (ov + i * 14) rfl (vcell (voI (s9 : Int) b9) nv) dv (HRg9.out _ HKi.out) hdv1 hdv2 (by rw [szVote]; rfl) ?_)
                    | (refine wpList_store_all rfl 59 _ _ rfl 14 wr.heap.size zeroVo.toList (vcell (voI (s9 : Int) b9) nv) rfl rfl (by exact Lv.new wr _ _) szVote rfl rfl HOv.out ?_; intro w5 l5 k5; have z0 : w5.cell? ⟨wr.heap.size, 0, none⟩ = some (.int .i64 (s9 : Int)) := l5.cell (j := 0) rfl; have z1 : w5.cell? ⟨wr.heap.size, 1, none⟩ = some (.int .i64 (b9 : Int)) := l5.cell (j := 1) rfl; have z2 : w5.cell? ⟨wr.heap.size, 2, none⟩ = some (.int .i64 (b9 : Int)) := l5.cell (j := 2) rfl; have HK5 : Hid (Kp (fun _ => False) y3 w5) := HKi.out.trans (((Kp.refl (fun _ => False) wr).alloc _).trans k5 (fun b hb e => by have e' : b = wr.heap.size := e; omega)) (fun _ _ e => e); have hlk := HMv.out w5 HK5.out; clear l5 k5))
                  go_roundg (C - (i + 1))
                  case rel => exact ⟨i + 1, HI9.out, rfl, by first | rw [hwi] | simp, HK5.out⟩
                  case measure => exact Nat.sub_lt_sub_left HI9.out (Nat.lt_succ_self i)
                · have hiC : i = C := by omega
                  subst hiC
                  have hlt8 : ¬ ((i : Int) < (i : Int)) := by omega
                  have HRf : Hid (R11 w wr pb mv q ac sh mp g bp d m gf b N h hi V ∧ (N ≤ 3 * (j + 1) ∧ b ≤ j + 1 + 1 ∧ q ≤ j + 1)) := ⟨HR3.out.keep0 HKi.out, HRn.out.2⟩
                  clear HR1 HR2 HR3 HF3 HEl HKi HRn HC hlt9
                  go_wp2_with fail
                  go_roundg (L - (j + 1))
                  case rel => exact ⟨j + 1, hi, q, ac, sh, mp, g, gf, b, N, h, V, HJ.out, rfl, rfl, by first | rw [hwj] | simp, HRf.out.1, HRf.out.2, by have := HJ30.out; omega⟩
                  case measure => exact Nat.sub_lt_sub_left HJ.out (Nat.lt_succ_self j)
            · have hge : (hi : Int) ≤ (bt : Int) := by omega
              have hmx : max (hi : Int) (bt : Int) = (bt : Int) := Int.max_eq_right (by omega)
              obtain ⟨gf', N', h', hN', hr'⟩ := HR4.out.1.step HZ.out kx hRx
              have HRn : Hid (R11 w wx pb mv q ac sh mp g bp d m gf' b N' h' bt V ∧ (N' ≤ 3 * (j + 1) ∧ b ≤ j + 1 + 1 ∧ q ≤ j + 1)) := ⟨hr', by have := HR4.out.2; omega⟩
              clear kx hle9 hRx hN' hr' HPp HZ t0 x0 HR4 HL4 e4
              have t0 := HRn.out.1.pa.1
              have HPm : Hid (Calls _ _ _ wx _) := HRn.out.1.prm
              go_wp2_with fail
              refine HPm.out.mono ?_
              rintro e9 y1 ⟨rfl, ky1⟩
              have HR1 : Hid (R11 w y1 pb mv q ac sh mp g bp d m gf' b N' h' bt V) := HRn.out.1.keep0 ky1
              have t1 := HR1.out.pa.1
              have hv1 := HR1.out.vts
              obtain ⟨C, hC⟩ : ∃ C, C = cntV V := ⟨_, rfl⟩
              have HC : Hid (C = cntV V ∧ C ≤ 5) := ⟨hC, by rw [hC]; exact cntV_le _⟩
              rw [← hC] at hv1
              have HV1 : Hid (Calls _ _ _ y1 _) := hv1
              clear ky1 HPm t0 hv1
              go_wp2_with fail
              refine HV1.out.mono ?_
              rintro e9 y2 ⟨p1, c1, l1, rfl, ky2, _⟩
              have HR2 : Hid (R11 w y2 pb mv q ac sh mp g bp d m gf' b N' h' bt V) := HR1.out.keep0 ky2
              have t2 := HR2.out.pa.1
              have hln := len_mm uII11 HR2.out.mm 3
              have hv2 := HR2.out.vts
              rw [← hC] at hv2 hln
              have HV2 : Hid (Calls _ _ _ y2 _) := hv2
              clear ky2 HV1 t1 hv2 hC
              go_wp2_with fail
              refine HV2.out.mono ?_
              rintro e9 y3 ⟨p2, c2, l2, rfl, ky3, hf, hlen, hel⟩
              have HR3 : Hid (R11 w y3 pb mv q ac sh mp g bp d m gf' b N' h' bt V) := HR2.out.keep0 ky3
              have HF3 : Hid (Fl y3 (fun b => y2.heap.size ≤ b ∧ b < y3.heap.size) p2 (vflat l2) ∧ l2.length = C) := ⟨hf, hlen⟩
              have HEl : Hid (∀ y ∈ l2, ∃ s8 : Nat, (1 ≤ s8 ∧ s8 ≤ 5) ∧ V s8 ≠ 0 ∧ y.1 = voI (s8 : Int) (V s8) ∧ y.2.oneCell' = true) := hel
              clear ky3 hf hlen hel HV2 t2 hln
              go_wp2_with fail
              go_loopg [170] C (fun gk iv wz => ∃ i : Nat, i ≤ C ∧ gk = C - i ∧ iv = .int .i64 (i : Int) ∧ Hid (Kp (fun _ => False) y3 wz))
              case atStart => exact ⟨0, Nat.zero_le _, rfl, rfl, Kp.refl _ _⟩
              case round =>
                obtain ⟨i, hi9, rfl, rfl, HKi⟩ := hrel
                by_cases hlt9 : i < C
                · have hlt8 : (i : Int) < (C : Int) := by omega
                  have hil : i < l2.length := by rw [HF3.out.2]; exact hlt9
                  obtain ⟨gv, ov, rfl, hrg⟩ := fl_range HF3.out.1 hil
                  obtain ⟨s9, hs9, hv9, e9, h19⟩ := HEl.out l2[i] (List.getElem_mem hil)
                  obtain ⟨nv, hnv⟩ : ∃ nv, nv = l2[i].2 := ⟨_, rfl⟩
                  rw [e9, ← hnv] at hrg
                  rw [← hnv] at h19
                  obtain ⟨b9, hb9⟩ : ∃ y, y = V s9 := ⟨_, rfl⟩
                  have HMv : Hid (∀ z, Kp (fun _ => False) y3 z → (Instr.lookup 25 (.map (some mv)) (.int .i64 (s9 : Int)) false).run Tryz.prog z = .ok (.int .i64 (b9 : Int)) z) := fun z k => by
                    have h9 := look_mm uII11 zII11 (HR3.out.mm.keep k id) (s9 : Int) (z_wf (by omega))
                    have e8 : ((s9 : Int)).toNat = s9 := by omega
                    rw [TV_at ⟨by omega, by omega, by rw [e8]; exact hv9⟩, e8, ← hb9] at h9
                    exact h9
                  rw [← hb9] at hrg
                  have HRg9 : Hid (∀ wz, Kp (fun _ => False) y3 wz → wz.rangeAt gv (ov + i * 14) (vcell (voI (s9 : Int) b9) nv)) := fun wz k r u hu => k.cellv (hrg r u hu) id
                  have HOv : Hid ((vcell (voI (s9 : Int) b9) nv).toArray.all (·.oneCell') = true) := vcell_one _ h19
                  obtain ⟨dv, hdv1, hdv2⟩ := dsVote
                  have hwi : wrap64 ((i : Int) + 1) = ((i + 1 : Nat) : Int) := by have := HC.out; unfold wrap64; omega
                  have HI9 : Hid (i < C) := hlt9
                  clear hil hrg e9 h19 hnv hb9 hv9 hlt9 hs9
                  go_wp2_with (first
                    | (refine wpList_load_mid rfl 59 _ rfl gv (ov + i * 14) rfl (vcell (voI (s9 : Int) b9) nv) dv (HRg9.out _ HKi.out) hdv1 hdv2 (by rw [szVote]; rfl) ?_)
                    | (refine wpList_store_all rfl 59 _ _ rfl 14 wr.heap.size zeroVo.toList (vcell (voI (s9 : Int) b9) nv) rfl rfl (by exact Lv.new wr _ _) szVote rfl rfl HOv.out ?_; intro w5 l5 k5; have z0 : w5.cell? ⟨wr.heap.size, 0, none⟩ = some (.int .i64 (s9 : Int)) := l5.cell (j := 0) rfl; have z1 : w5.cell? ⟨wr.heap.size, 1, none⟩ = some (.int .i64 (b9 : Int)) := l5.cell (j := 1) rfl; have z2 : w5.cell? ⟨wr.heap.size, 2, none⟩ = some (.int .i64 (b9 : Int)) := l5.cell (j := 2) rfl; have HK5 : Hid (Kp (fun _ => False) y3 w5) := HKi.out.trans (((Kp.refl (fun _ => False) wr).alloc _).trans k5 (fun b hb e => by have e' : b = wr.heap.size := e; omega)) (fun _ _ e => e); have hlk := HMv.out w5 HK5.out; clear l5 k5))
                  go_roundg (C - (i + 1))
                  case rel => exact ⟨i + 1, HI9.out, rfl, by first | rw [hwi] | simp, HK5.out⟩
                  case measure => exact Nat.sub_lt_sub_left HI9.out (Nat.lt_succ_self i)
                · have hiC : i = C := by omega
                  subst hiC
                  have hlt8 : ¬ ((i : Int) < (i : Int)) := by omega
                  have HRf : Hid (R11 w wr pb mv q ac sh mp g bp d m gf' b N' h' bt V ∧ (N' ≤ 3 * (j + 1) ∧ b ≤ j + 1 + 1 ∧ q ≤ j + 1)) := ⟨HR3.out.keep0 HKi.out, HRn.out.2⟩
                  clear HR1 HR2 HR3 HF3 HEl HKi HRn HC hlt9
                  go_wp2_with fail
                  go_roundg (L - (j + 1))
                  case rel => exact ⟨j + 1, bt, q, ac, sh, mp, g, gf', b, N', h', V, HJ.out, rfl, rfl, by first | rw [hwj] | simp, HRf.out.1, HRf.out.2, by have := HJ30.out; omega⟩
                  case measure => exact Nat.sub_lt_sub_left HJ.out (Nat.lt_succ_self j)
          · have e4 : wrap64 ((IntKind.u64.wrap op).tmod 4) = 1 := H4.out.1
            obtain ⟨Z, hsz, hz1, hz2⟩ := HR4.out.1.a.s
            have HZ : Hid (¬ Z pb ∧ ¬ Z mv) := ⟨hz1, hz2⟩
            have t0 := HR4.out.1.pa.1
            have HPp : Hid (Calls _ _ _ wc _) := accept_ok hsz HR4.out.1.a.hs HR4.out.1.a.c HR4.out.1.a.na bt s HBt.out.1 HBt.out.2 (by have := HR4.out.2; have := HJ30.out; omega)
            clear hsz hz1 hz2
            go_wp2_with fail
            refine HPp.out.mono ?_
            rintro e9 wx (⟨hlt9, rfl, kx⟩ | ⟨hle9, rfl, kx, hRx⟩)
            · have hge : ¬ ((hi : Int) ≤ (bt : Int)) := by omega
              have HRn : Hid (R11 w wx pb mv q ac sh mp g bp d m gf b N h hi V ∧ (N ≤ 3 * (j + 1) ∧ b ≤ j + 1 + 1 ∧ q ≤ j + 1)) := ⟨HR4.out.1.keep0 kx, by have := HR4.out.2; omega⟩
              clear kx hlt9 HPp HZ t0 x0 HR4 HL4 e4
              have t0 := HRn.out.1.pa.1
              have HPm : Hid (Calls _ _ _ wx _) := HRn.out.1.prm
              go_wp2_with fail
              refine HPm.out.mono ?_
              rintro e9 y1 ⟨rfl, ky1⟩
              have HR1 : Hid (R11 w y1 pb mv q ac sh mp g bp d m gf b N h hi V) := HRn.out.1.keep0 ky1
              have t1 := HR1.out.pa.1
              have hv1 := HR1.out.vts
              obtain ⟨C, hC⟩ : ∃ C, C = cntV V := ⟨_, rfl⟩
              have HC : Hid (C = cntV V ∧ C ≤ 5) := ⟨hC, by rw [hC]; exact cntV_le _⟩
              rw [← hC] at hv1
              have HV1 : Hid (Calls _ _ _ y1 _) := hv1
              clear ky1 HPm t0 hv1
              go_wp2_with fail
              refine HV1.out.mono ?_
              rintro e9 y2 ⟨p1, c1, l1, rfl, ky2, _⟩
              have HR2 : Hid (R11 w y2 pb mv q ac sh mp g bp d m gf b N h hi V) := HR1.out.keep0 ky2
              have t2 := HR2.out.pa.1
              have hln := len_mm uII11 HR2.out.mm 3
              have hv2 := HR2.out.vts
              rw [← hC] at hv2 hln
              have HV2 : Hid (Calls _ _ _ y2 _) := hv2
              clear ky2 HV1 t1 hv2 hC
              go_wp2_with fail
              refine HV2.out.mono ?_
              rintro e9 y3 ⟨p2, c2, l2, rfl, ky3, hf, hlen, hel⟩
              have HR3 : Hid (R11 w y3 pb mv q ac sh mp g bp d m gf b N h hi V) := HR2.out.keep0 ky3
              have HF3 : Hid (Fl y3 (fun b => y2.heap.size ≤ b ∧ b < y3.heap.size) p2 (vflat l2) ∧ l2.length = C) := ⟨hf, hlen⟩
              have HEl : Hid (∀ y ∈ l2, ∃ s8 : Nat, (1 ≤ s8 ∧ s8 ≤ 5) ∧ V s8 ≠ 0 ∧ y.1 = voI (s8 : Int) (V s8) ∧ y.2.oneCell' = true) := hel
              clear ky3 hf hlen hel HV2 t2 hln
              go_wp2_with fail
              go_loopg [170] C (fun gk iv wz => ∃ i : Nat, i ≤ C ∧ gk = C - i ∧ iv = .int .i64 (i : Int) ∧ Hid (Kp (fun _ => False) y3 wz))
              case atStart => exact ⟨0, Nat.zero_le _, rfl, rfl, Kp.refl _ _⟩
              case round =>
                obtain ⟨i, hi9, rfl, rfl, HKi⟩ := hrel
                by_cases hlt9 : i < C
                · have hlt8 : (i : Int) < (C : Int) := by omega
                  have hil : i < l2.length := by rw [HF3.out.2]; exact hlt9
                  obtain ⟨gv, ov, rfl, hrg⟩ := fl_range HF3.out.1 hil
                  obtain ⟨s9, hs9, hv9, e9, h19⟩ := HEl.out l2[i] (List.getElem_mem hil)
                  obtain ⟨nv, hnv⟩ : ∃ nv, nv = l2[i].2 := ⟨_, rfl⟩
                  rw [e9, ← hnv] at hrg
                  rw [← hnv] at h19
                  obtain ⟨b9, hb9⟩ : ∃ y, y = V s9 := ⟨_, rfl⟩
                  have HMv : Hid (∀ z, Kp (fun _ => False) y3 z → (Instr.lookup 25 (.map (some mv)) (.int .i64 (s9 : Int)) false).run Tryz.prog z = .ok (.int .i64 (b9 : Int)) z) := fun z k => by
                    have h9 := look_mm uII11 zII11 (HR3.out.mm.keep k id) (s9 : Int) (z_wf (by omega))
                    have e8 : ((s9 : Int)).toNat = s9 := by omega
                    rw [TV_at ⟨by omega, by omega, by rw [e8]; exact hv9⟩, e8, ← hb9] at h9
                    exact h9
                  rw [← hb9] at hrg
                  have HRg9 : Hid (∀ wz, Kp (fun _ => False) y3 wz → wz.rangeAt gv (ov + i * 14) (vcell (voI (s9 : Int) b9) nv)) := fun wz k r u hu => k.cellv (hrg r u hu) id
                  have HOv : Hid ((vcell (voI (s9 : Int) b9) nv).toArray.all (·.oneCell') = true) := vcell_one _ h19
                  obtain ⟨dv, hdv1, hdv2⟩ := dsVote
                  have hwi : wrap64 ((i : Int) + 1) = ((i + 1 : Nat) : Int) := by have := HC.out; unfold wrap64; omega
                  have HI9 : Hid (i < C) := hlt9
                  clear hil hrg e9 h19 hnv hb9 hv9 hlt9 hs9
                  go_wp2_with (first
                    | (refine wpList_load_mid rfl 59 _ rfl gv (ov + i * 14) rfl (vcell (voI (s9 : Int) b9) nv) dv (HRg9.out _ HKi.out) hdv1 hdv2 (by rw [szVote]; rfl) ?_)
                    | (refine wpList_store_all rfl 59 _ _ rfl 14 wr.heap.size zeroVo.toList (vcell (voI (s9 : Int) b9) nv) rfl rfl (by exact Lv.new wr _ _) szVote rfl rfl HOv.out ?_; intro w5 l5 k5; have z0 : w5.cell? ⟨wr.heap.size, 0, none⟩ = some (.int .i64 (s9 : Int)) := l5.cell (j := 0) rfl; have z1 : w5.cell? ⟨wr.heap.size, 1, none⟩ = some (.int .i64 (b9 : Int)) := l5.cell (j := 1) rfl; have z2 : w5.cell? ⟨wr.heap.size, 2, none⟩ = some (.int .i64 (b9 : Int)) := l5.cell (j := 2) rfl; have HK5 : Hid (Kp (fun _ => False) y3 w5) := HKi.out.trans (((Kp.refl (fun _ => False) wr).alloc _).trans k5 (fun b hb e => by have e' : b = wr.heap.size := e; omega)) (fun _ _ e => e); have hlk := HMv.out w5 HK5.out; clear l5 k5))
                  go_roundg (C - (i + 1))
                  case rel => exact ⟨i + 1, HI9.out, rfl, by first | rw [hwi] | simp, HK5.out⟩
                  case measure => exact Nat.sub_lt_sub_left HI9.out (Nat.lt_succ_self i)
                · have hiC : i = C := by omega
                  subst hiC
                  have hlt8 : ¬ ((i : Int) < (i : Int)) := by omega
                  have HRf : Hid (R11 w wr pb mv q ac sh mp g bp d m gf b N h hi V ∧ (N ≤ 3 * (j + 1) ∧ b ≤ j + 1 + 1 ∧ q ≤ j + 1)) := ⟨HR3.out.keep0 HKi.out, HRn.out.2⟩
                  clear HR1 HR2 HR3 HF3 HEl HKi HRn HC hlt9
                  go_wp2_with fail
                  go_roundg (L - (j + 1))
                  case rel => exact ⟨j + 1, hi, q, ac, sh, mp, g, gf, b, N, h, V, HJ.out, rfl, rfl, by first | rw [hwj] | simp, HRf.out.1, HRf.out.2, by have := HJ30.out; omega⟩
                  case measure => exact Nat.sub_lt_sub_left HJ.out (Nat.lt_succ_self j)
            · have hge : (hi : Int) ≤ (bt : Int) := by omega
              have HRx : Hid (ResD wx Z wc.heap.size sh mp g bp d m gf b N 2 bt (fun t => if t = s then bt else V t) ∧ Kp (SW6 sh mp g m gf d) wc wx) := ⟨hRx, kx⟩
              have HMx : Hid (Mm wx mv q (cntV V) (TV V)) := HR4.out.1.mm.keep kx HR4.out.1.nm.1
              have HBz : Hid (bt ≠ 0 ∧ (s : Int) ≤ 5 ∧ q < 4611686018427387904) := ⟨by have := HBt.out.1.1; omega, by have := HBt.out.2.2; omega, by have := HR4.out.2; have := HJ30.out; omega⟩
              clear kx hle9 hRx HPp t0 x0 HL4 e4
              go_wp2_with (refine wpList_put_mm (by rfl) _ _ _ (by rfl) uII11 mv q (cntV V) (TV V) HMx.out (by rfl) HBz.out.2.2 (s : Int) (z_wf (by have := HBz.out.2.1; omega)) (by rfl) (.int .i64 (bt : Int)) (by rfl) ?_; intro wy hmy kmy; obtain ⟨gf', N', h', hN', hr'⟩ := HR4.out.1.put HZ.out HRx.out.2 HBt.out.2 HBz.out.1 HRx.out.1 kmy hmy; obtain ⟨V2, hV2⟩ : ∃ V2 : Nat → Nat, V2 = (fun t => if t = s then bt else V t) := ⟨_, rfl⟩; rw [← hV2] at hr'; have HRn : Hid (R11 w wy pb mv (q + 1) ac sh mp g bp d m gf' b N' h' bt V2 ∧ (N' ≤ 3 * (j + 1) ∧ b ≤ j + 1 + 1 ∧ (q + 1) ≤ j + 1)) := ⟨hr', by have := HR4.out.2; omega⟩; clear hmy kmy hN' hr' hV2 HRx HMx HR4 HZ; have t9 := HRn.out.1.pa.1; have HPq : Hid (Calls _ _ _ wy _) := HRn.out.1.prm)
              refine HPq.out.mono ?_
              rintro e9 y1 ⟨rfl, ky1⟩
              have HR1 : Hid (R11 w y1 pb mv (q + 1) ac sh mp g bp d m gf' b N' h' bt V2) := HRn.out.1.keep0 ky1
              have t1 := HR1.out.pa.1
              have hv1 := HR1.out.vts
              obtain ⟨C, hC⟩ : ∃ C, C = cntV V2 := ⟨_, rfl⟩
              have HC : Hid (C = cntV V2 ∧ C ≤ 5) := ⟨hC, by rw [hC]; exact cntV_le _⟩
              rw [← hC] at hv1
              have HV1 : Hid (Calls _ _ _ y1 _) := hv1
              clear ky1 HPq t9 hv1
              go_wp2_with fail
              refine HV1.out.mono ?_
              rintro e9 y2 ⟨p1, c1, l1, rfl, ky2, _⟩
              have HR2 : Hid (R11 w y2 pb mv (q + 1) ac sh mp g bp d m gf' b N' h' bt V2) := HR1.out.keep0 ky2
              have t2 := HR2.out.pa.1
              have hln := len_mm uII11 HR2.out.mm 3
              have hv2 := HR2.out.vts
              rw [← hC] at hv2 hln
              have HV2 : Hid (Calls _ _ _ y2 _) := hv2
              clear ky2 HV1 t1 hv2 hC
              go_wp2_with fail
              refine HV2.out.mono ?_
              rintro e9 y3 ⟨p2, c2, l2, rfl, ky3, hf, hlen, hel⟩
              have HR3 : Hid (R11 w y3 pb mv (q + 1) ac sh mp g bp d m gf' b N' h' bt V2) := HR2.out.keep0 ky3
              have HF3 : Hid (Fl y3 (fun b => y2.heap.size ≤ b ∧ b < y3.heap.size) p2 (vflat l2) ∧ l2.length = C) := ⟨hf, hlen⟩
              have HEl : Hid (∀ y ∈ l2, ∃ s8 : Nat, (1 ≤ s8 ∧ s8 ≤ 5) ∧ V2 s8 ≠ 0 ∧ y.1 = voI (s8 : Int) (V2 s8) ∧ y.2.oneCell' = true) := hel
              clear ky3 hf hlen hel HV2 t2 hln
              go_wp2_with fail
              go_loopg [170] C (fun gk iv wz => ∃ i : Nat, i ≤ C ∧ gk = C - i ∧ iv = .int .i64 (i : Int) ∧ Hid (Kp (fun _ => False) y3 wz))
              case atStart => exact ⟨0, Nat.zero_le _, rfl, rfl, Kp.refl _ _⟩
              case round =>
                obtain ⟨i, hi9, rfl, rfl, HKi⟩ := hrel
                by_cases hlt9 : i < C
                · have hlt8 : (i : Int) < (C : Int) := by omega
                  have hil : i < l2.length := by rw [HF3.out.2]; exact hlt9
                  obtain ⟨gv, ov, rfl, hrg⟩ := fl_range HF3.out.1 hil
                  obtain ⟨s9, hs9, hv9, e9, h19⟩ := HEl.out l2[i] (List.getElem_mem hil)
                  obtain ⟨nv, hnv⟩ : ∃ nv, nv = l2[i].2 := ⟨_, rfl⟩
                  rw [e9, ← hnv] at hrg
                  rw [← hnv] at h19
                  obtain ⟨b9, hb9⟩ : ∃ y, y = V2 s9 := ⟨_, rfl⟩
                  have HMv : Hid (∀ z, Kp (fun _ => False) y3 z → (Instr.lookup 25 (.map (some mv)) (.int .i64 (s9 : Int)) false).run Tryz.prog z = .ok (.int .i64 (b9 : Int)) z) := fun z k => by
                    have h9 := look_mm uII11 zII11 (HR3.out.mm.keep k id) (s9 : Int) (z_wf (by omega))
                    have e8 : ((s9 : Int)).toNat = s9 := by omega
                    rw [TV_at ⟨by omega, by omega, by rw [e8]; exact hv9⟩, e8, ← hb9] at h9
                    exact h9
                  rw [← hb9] at hrg
                  have HRg9 : Hid (∀ wz, Kp (fun _ => False) y3 wz → wz.rangeAt gv (ov + i * 14) (vcell (voI (s9 : Int) b9) nv)) := fun wz k r u hu => k.cellv (hrg r u hu) id
                  have HOv : Hid ((vcell (voI (s9 : Int) b9) nv).toArray.all (·.oneCell') = true) := vcell_one _ h19
                  obtain ⟨dv, hdv1, hdv2⟩ := dsVote
                  have hwi : wrap64 ((i : Int) + 1) = ((i + 1 : Nat) : Int) := by have := HC.out; unfold wrap64; omega
                  have HI9 : Hid (i < C) := hlt9
                  clear hil hrg e9 h19 hnv hb9 hv9 hlt9 hs9
                  go_wp2_with (first
                    | (refine wpList_load_mid rfl 59 _ rfl gv (ov + i * 14) rfl (vcell (voI (s9 : Int) b9) nv) dv (HRg9.out _ HKi.out) hdv1 hdv2 (by rw [szVote]; rfl) ?_)
                    | (refine wpList_store_all rfl 59 _ _ rfl 14 wr.heap.size zeroVo.toList (vcell (voI (s9 : Int) b9) nv) rfl rfl (by exact Lv.new wr _ _) szVote rfl rfl HOv.out ?_; intro w5 l5 k5; have z0 : w5.cell? ⟨wr.heap.size, 0, none⟩ = some (.int .i64 (s9 : Int)) := l5.cell (j := 0) rfl; have z1 : w5.cell? ⟨wr.heap.size, 1, none⟩ = some (.int .i64 (b9 : Int)) := l5.cell (j := 1) rfl; have z2 : w5.cell? ⟨wr.heap.size, 2, none⟩ = some (.int .i64 (b9 : Int)) := l5.cell (j := 2) rfl; have HK5 : Hid (Kp (fun _ => False) y3 w5) := HKi.out.trans (((Kp.refl (fun _ => False) wr).alloc _).trans k5 (fun b hb e => by have e' : b = wr.heap.size := e; omega)) (fun _ _ e => e); have hlk := HMv.out w5 HK5.out; clear l5 k5))
                  go_roundg (C - (i + 1))
                  case rel => exact ⟨i + 1, HI9.out, rfl, by first | rw [hwi] | simp, HK5.out⟩
                  case measure => exact Nat.sub_lt_sub_left HI9.out (Nat.lt_succ_self i)
                · have hiC : i = C := by omega
                  subst hiC
                  have hlt8 : ¬ ((i : Int) < (i : Int)) := by omega
                  have HRf : Hid (R11 w wr pb mv (q + 1) ac sh mp g bp d m gf' b N' h' bt V2 ∧ (N' ≤ 3 * (j + 1) ∧ b ≤ j + 1 + 1 ∧ (q + 1) ≤ j + 1)) := ⟨HR3.out.keep0 HKi.out, HRn.out.2⟩
                  clear HR1 HR2 HR3 HF3 HEl HKi HRn HC hlt9
                  go_wp2_with fail
                  go_roundg (L - (j + 1))
                  case rel => exact ⟨j + 1, bt, (q + 1), ac, sh, mp, g, gf', b, N', h', V2, HJ.out, rfl, rfl, by first | rw [hwj] | simp, HRf.out.1, HRf.out.2, by have := HJ30.out; omega⟩
                  case measure => exact Nat.sub_lt_sub_left HJ.out (Nat.lt_succ_self j)
          · have e4 : wrap64 ((IntKind.u64.wrap op).tmod 4) = 2 := H4.out.1
            obtain ⟨Z, hsz, hz1, hz2⟩ := HR4.out.1.a.s
            have HZ : Hid (¬ Z pb ∧ ¬ Z mv) := ⟨hz1, hz2⟩
            have t0 := HR4.out.1.pa.1
            have HPp : Hid (Calls _ _ _ wc _) := accept_ok hsz HR4.out.1.a.hs HR4.out.1.a.c HR4.out.1.a.na bt s HBt.out.1 HBt.out.2 (by have := HR4.out.2; have := HJ30.out; omega)
            clear hsz hz1 hz2
            go_wp2_with fail
            refine HPp.out.mono ?_
            rintro e9 wx (⟨hlt9, rfl, kx⟩ | ⟨hle9, rfl, kx, hRx⟩)
            · have hge : ¬ ((hi : Int) ≤ (bt : Int)) := by omega
              have HRn : Hid (R11 w wx pb mv q ac sh mp g bp d m gf b N h hi V ∧ (N ≤ 3 * (j + 1) ∧ b ≤ j + 1 + 1 ∧ q ≤ j + 1)) := ⟨HR4.out.1.keep0 kx, by have := HR4.out.2; omega⟩
              clear kx hlt9 HPp HZ t0 x0 HR4 HL4 e4
              have t0 := HRn.out.1.pa.1
              have HPm : Hid (Calls _ _ _ wx _) := HRn.out.1.prm
              go_wp2_with fail
              refine HPm.out.mono ?_
              rintro e9 y1 ⟨rfl, ky1⟩
              have HR1 : Hid (R11 w y1 pb mv q ac sh mp g bp d m gf b N h hi V) := HRn.out.1.keep0 ky1
              have t1 := HR1.out.pa.1
              have hv1 := HR1.out.vts
              obtain ⟨C, hC⟩ : ∃ C, C = cntV V := ⟨_, rfl⟩
              have HC : Hid (C = cntV V ∧ C ≤ 5) := ⟨hC, by rw [hC]; exact cntV_le _⟩
              rw [← hC] at hv1
              have HV1 : Hid (Calls _ _ _ y1 _) := hv1
              clear ky1 HPm t0 hv1
              go_wp2_with fail
              refine HV1.out.mono ?_
              rintro e9 y2 ⟨p1, c1, l1, rfl, ky2, _⟩
              have HR2 : Hid (R11 w y2 pb mv q ac sh mp g bp d m gf b N h hi V) := HR1.out.keep0 ky2
              have t2 := HR2.out.pa.1
              have hln := len_mm uII11 HR2.out.mm 3
              have hv2 := HR2.out.vts
              rw [← hC] at hv2 hln
              have HV2 : Hid (Calls _ _ _ y2 _) := hv2
              clear ky2 HV1 t1 hv2 hC
              go_wp2_with fail
              refine HV2.out.mono ?_
              rintro e9 y3 ⟨p2, c2, l2, rfl, ky3, hf, hlen, hel⟩
              have HR3 : Hid (R11 w y3 pb mv q ac sh mp g bp d m gf b N h hi V) := HR2.out.keep0 ky3
              have HF3 : Hid (Fl y3 (fun b => y2.heap.size ≤ b ∧ b < y3.heap.size) p2 (vflat l2) ∧ l2.length = C) := ⟨hf, hlen⟩
              have HEl : Hid (∀ y ∈ l2, ∃ s8 : Nat, (1 ≤ s8 ∧ s8 ≤ 5) ∧ V s8 ≠ 0 ∧ y.1 = voI (s8 : Int) (V s8) ∧ y.2.oneCell' = true) := hel
              clear ky3 hf hlen hel HV2 t2 hln
              go_wp2_with fail
              go_loopg [170] C (fun gk iv wz => ∃ i : Nat, i ≤ C ∧ gk = C - i ∧ iv = .int .i64 (i : Int) ∧ Hid (Kp (fun _ => False) y3 wz))
              case atStart => exact ⟨0, Nat.zero_le _, rfl, rfl, Kp.refl _ _⟩
              case round =>
                obtain ⟨i, hi9, rfl, rfl, HKi⟩ := hrel
                by_cases hlt9 : i < C
                · have hlt8 : (i : Int) < (C : Int) := by omega
                  have hil : i < l2.length := by rw [HF3.out.2]; exact hlt9
                  obtain ⟨gv, ov, rfl, hrg⟩ := fl_range HF3.out.1 hil
                  obtain ⟨s9, hs9, hv9, e9, h19⟩ := HEl.out l2[i] (List.getElem_mem hil)
                  obtain ⟨nv, hnv⟩ : ∃ nv, nv = l2[i].2 := ⟨_, rfl⟩
                  rw [e9, ← hnv] at hrg
                  rw [← hnv] at h19
                  obtain ⟨b9, hb9⟩ : ∃ y, y = V s9 := ⟨_, rfl⟩
                  have HMv : Hid (∀ z, Kp (fun _ => False) y3 z → (Instr.lookup 25 (.map (some mv)) (.int .i64 (s9 : Int)) false).run Tryz.prog z = .ok (.int .i64 (b9 : Int)) z) := fun z k => by
                    have h9 := look_mm uII11 zII11 (HR3.out.mm.keep k id) (s9 : Int) (z_wf (by omega))
                    have e8 : ((s9 : Int)).toNat = s9 := by omega
                    rw [TV_at ⟨by omega, by omega, by rw [e8]; exact hv9⟩, e8, ← hb9] at h9
                    exact h9
                  rw [← hb9] at hrg
                  have HRg9 : Hid (∀ wz, Kp (fun _ => False) y3 wz → wz.rangeAt gv (ov + i * 14) (vcell (voI (s9 : Int) b9) nv)) := fun wz k r u hu => k.cellv (hrg r u hu) id
                  have HOv : Hid ((vcell (voI (s9 : Int) b9) nv).toArray.all (·.oneCell') = true) := vcell_one _ h19
                  obtain ⟨dv, hdv1, hdv2⟩ := dsVote
                  have hwi : wrap64 ((i : Int) + 1) = ((i + 1 : Nat) : Int) := by have := HC.out; unfold wrap64; omega
                  have HI9 : Hid (i < C) := hlt9
                  clear hil hrg e9 h19 hnv hb9 hv9 hlt9 hs9
                  go_wp2_with (first
                    | (refine wpList_load_mid rfl 59 _ rfl gv (ov + i * 14) rfl (vcell (voI (s9 : Int) b9) nv) dv (HRg9.out _ HKi.out) hdv1 hdv2 (by rw [szVote]; rfl) ?_)
                    | (refine wpList_store_all rfl 59 _ _ rfl 14 wr.heap.size zeroVo.toList (vcell (voI (s9 : Int) b9) nv) rfl rfl (by exact Lv.new wr _ _) szVote rfl rfl HOv.out ?_; intro w5 l5 k5; have z0 : w5.cell? ⟨wr.heap.size, 0, none⟩ = some (.int .i64 (s9 : Int)) := l5.cell (j := 0) rfl; have z1 : w5.cell? ⟨wr.heap.size, 1, none⟩ = some (.int .i64 (b9 : Int)) := l5.cell (j := 1) rfl; have z2 : w5.cell? ⟨wr.heap.size, 2, none⟩ = some (.int .i64 (b9 : Int)) := l5.cell (j := 2) rfl; have HK5 : Hid (Kp (fun _ => False) y3 w5) := HKi.out.trans (((Kp.refl (fun _ => False) wr).alloc _).trans k5 (fun b hb e => by have e' : b = wr.heap.size := e; omega)) (fun _ _ e => e); have hlk := HMv.out w5 HK5.out; clear l5 k5))
                  go_roundg (C - (i + 1))
                  case rel => exact ⟨i + 1, HI9.out, rfl, by first | rw [hwi] | simp, HK5.out⟩
                  case measure => exact Nat.sub_lt_sub_left HI9.out (Nat.lt_succ_self i)
                · have hiC : i = C := by omega
                  subst hiC
                  have hlt8 : ¬ ((i : Int) < (i : Int)) := by omega
                  have HRf : Hid (R11 w wr pb mv q ac sh mp g bp d m gf b N h hi V ∧ (N ≤ 3 * (j + 1) ∧ b ≤ j + 1 + 1 ∧ q ≤ j + 1)) := ⟨HR3.out.keep0 HKi.out, HRn.out.2⟩
                  clear HR1 HR2 HR3 HF3 HEl HKi HRn HC hlt9
                  go_wp2_with fail
                  go_roundg (L - (j + 1))
                  case rel => exact ⟨j + 1, hi, q, ac, sh, mp, g, gf, b, N, h, V, HJ.out, rfl, rfl, by first | rw [hwj] | simp, HRf.out.1, HRf.out.2, by have := HJ30.out; omega⟩
                  case measure => exact Nat.sub_lt_sub_left HJ.out (Nat.lt_succ_self j)
            · have hge : (hi : Int) ≤ (bt : Int) := by omega
              have HRx : Hid (ResD wx Z wc.heap.size sh mp g bp d m gf b N 2 bt (fun t => if t = s then bt else V t) ∧ Kp (SW6 sh mp g m gf d) wc wx) := ⟨hRx, kx⟩
              have HMx : Hid (Mm wx mv q (cntV V) (TV V)) := HR4.out.1.mm.keep kx HR4.out.1.nm.1
              have HBz : Hid (bt ≠ 0 ∧ (s : Int) ≤ 5 ∧ q < 4611686018427387904) := ⟨by have := HBt.out.1.1; omega, by have := HBt.out.2.2; omega, by have := HR4.out.2; have := HJ30.out; omega⟩
              clear kx hle9 hRx HPp t0 x0 HL4 e4
              go_wp2_with (refine wpList_put_mm (by rfl) _ _ _ (by rfl) uII11 mv q (cntV V) (TV V) HMx.out (by rfl) HBz.out.2.2 (s : Int) (z_wf (by have := HBz.out.2.1; omega)) (by rfl) (.int .i64 (bt : Int)) (by rfl) ?_; intro wy hmy kmy; obtain ⟨gf', N', h', hN', hr'⟩ := HR4.out.1.put HZ.out HRx.out.2 HBt.out.2 HBz.out.1 HRx.out.1 kmy hmy; obtain ⟨V2, hV2⟩ : ∃ V2 : Nat → Nat, V2 = (fun t => if t = s then bt else V t) := ⟨_, rfl⟩; rw [← hV2] at hr'; have HRn : Hid (R11 w wy pb mv (q + 1) ac sh mp g bp d m gf' b N' h' bt V2 ∧ (N' ≤ 3 * (j + 1) ∧ b ≤ j + 1 + 1 ∧ (q + 1) ≤ j + 1)) := ⟨hr', by have := HR4.out.2; omega⟩; clear hmy kmy hN' hr' hV2 HRx HMx HR4 HZ; have t9 := HRn.out.1.pa.1; have HPq : Hid (Calls _ _ _ wy _) := HRn.out.1.prm)
              refine HPq.out.mono ?_
              rintro e9 y1 ⟨rfl, ky1⟩
              have HR1 : Hid (R11 w y1 pb mv (q + 1) ac sh mp g bp d m gf' b N' h' bt V2) := HRn.out.1.keep0 ky1
              have t1 := HR1.out.pa.1
              have hv1 := HR1.out.vts
              obtain ⟨C, hC⟩ : ∃ C, C = cntV V2 := ⟨_, rfl⟩
              have HC : Hid (C = cntV V2 ∧ C ≤ 5) := ⟨hC, by rw [hC]; exact cntV_le _⟩
              rw [← hC] at hv1
              have HV1 : Hid (Calls _ _ _ y1 _) := hv1
              clear ky1 HPq t9 hv1
              go_wp2_with fail
              refine HV1.out.mono ?_
              rintro e9 y2 ⟨p1, c1, l1, rfl, ky2, _⟩
              have HR2 : Hid (R11 w y2 pb mv (q + 1) ac sh mp g bp d m gf' b N' h' bt V2) := HR1.out.keep0 ky2
              have t2 := HR2.out.pa.1
              have hln := len_mm uII11 HR2.out.mm 3
              have hv2 := HR2.out.vts
              rw [← hC] at hv2 hln
              have HV2 : Hid (Calls _ _ _ y2 _) := hv2
              clear ky2 HV1 t1 hv2 hC
              go_wp2_with fail
              refine HV2.out.mono ?_
              rintro e9 y3 ⟨p2, c2, l2, rfl, ky3, hf, hlen, hel⟩
              have HR3 : Hid (R11 w y3 pb mv (q + 1) ac sh mp g bp d m gf' b N' h' bt V2) := HR2.out.keep0 ky3
              have HF3 : Hid (Fl y3 (fun b => y2.heap.size ≤ b ∧ b < y3.heap.size) p2 (vflat l2) ∧ l2.length = C) := ⟨hf, hlen⟩
              have HEl : Hid (∀ y ∈ l2, ∃ s8 : Nat, (1 ≤ s8 ∧ s8 ≤ 5) ∧ V2 s8 ≠ 0 ∧ y.1 = voI (s8 : Int) (V2 s8) ∧ y.2.oneCell' = true) := hel
              clear ky3 hf hlen hel HV2 t2 hln
              go_wp2_with fail
              go_loopg [170] C (fun gk iv wz => ∃ i : Nat, i ≤ C ∧ gk = C - i ∧ iv = .int .i64 (i : Int) ∧ Hid (Kp (fun _ => False) y3 wz))
              case atStart => exact ⟨0, Nat.zero_le _, rfl, rfl, Kp.refl _ _⟩
              case round =>
                obtain ⟨i, hi9, rfl, rfl, HKi⟩ := hrel
                by_cases hlt9 : i < C
                · have hlt8 : (i : Int) < (C : Int) := by omega
                  have hil : i < l2.length := by rw [HF3.out.2]; exact hlt9
                  obtain ⟨gv, ov, rfl, hrg⟩ := fl_range HF3.out.1 hil
                  obtain ⟨s9, hs9, hv9, e9, h19⟩ := HEl.out l2[i] (List.getElem_mem hil)
                  obtain ⟨nv, hnv⟩ : ∃ nv, nv = l2[i].2 := ⟨_, rfl⟩
                  rw [e9, ← hnv] at hrg
                  rw [← hnv] at h19
                  obtain ⟨b9, hb9⟩ : ∃ y, y = V2 s9 := ⟨_, rfl⟩
                  have HMv : Hid (∀ z, Kp (fun _ => False) y3 z → (Instr.lookup 25 (.map (some mv)) (.int .i64 (s9 : Int)) false).run Tryz.prog z = .ok (.int .i64 (b9 : Int)) z) := fun z k => by
                    have h9 := look_mm uII11 zII11 (HR3.out.mm.keep k id) (s9 : Int) (z_wf (by omega))
                    have e8 : ((s9 : Int)).toNat = s9 := by omega
                    rw [TV_at ⟨by omega, by omega, by rw [e8]; exact hv9⟩, e8, ← hb9] at h9
                    exact h9
                  rw [← hb9] at hrg
                  have HRg9 : Hid (∀ wz, Kp (fun _ => False) y3 wz → wz.rangeAt gv (ov + i * 14) (vcell (voI (s9 : Int) b9) nv)) := fun wz k r u hu => k.cellv (hrg r u hu) id
                  have HOv : Hid ((vcell (voI (s9 : Int) b9) nv).toArray.all (·.oneCell') = true) := vcell_one _ h19
                  obtain ⟨dv, hdv1, hdv2⟩ := dsVote
                  have hwi : wrap64 ((i : Int) + 1) = ((i + 1 : Nat) : Int) := by have := HC.out; unfold wrap64; omega
                  have HI9 : Hid (i < C) := hlt9
                  clear hil hrg e9 h19 hnv hb9 hv9 hlt9 hs9
                  go_wp2_with (first
                    | (refine wpList_load_mid rfl 59 _ rfl gv (ov + i * 14) rfl (vcell (voI (s9 : Int) b9) nv) dv (HRg9.out _ HKi.out) hdv1 hdv2 (by rw [szVote]; rfl) ?_)
                    | (refine wpList_store_all rfl 59 _ _ rfl 14 wr.heap.size zeroVo.toList (vcell (voI (s9 : Int) b9) nv) rfl rfl (by exact Lv.new wr _ _) szVote rfl rfl HOv.out ?_; intro w5 l5 k5; have z0 : w5.cell? ⟨wr.heap.size, 0, none⟩ = some (.int .i64 (s9 : Int)) := l5.cell (j := 0) rfl; have z1 : w5.cell? ⟨wr.heap.size, 1, none⟩ = some (.int .i64 (b9 : Int)) := l5.cell (j := 1) rfl; have z2 : w5.cell? ⟨wr.heap.size, 2, none⟩ = some (.int .i64 (b9 : Int)) := l5.cell (j := 2) rfl; have HK5 : Hid (Kp (fun _ => False) y3 w5) := HKi.out.trans (((Kp.refl (fun _ => False) wr).alloc _).trans k5 (fun b hb e => by have e' : b = wr.heap.size := e; omega)) (fun _ _ e => e); have hlk := HMv.out w5 HK5.out; clear l5 k5))
                  go_roundg (C - (i + 1))
                  case rel => exact ⟨i + 1, HI9.out, rfl, by first | rw [hwi] | simp, HK5.out⟩
                  case measure => exact Nat.sub_lt_sub_left HI9.out (Nat.lt_succ_self i)
                · have hiC : i = C := by omega
                  subst hiC
                  have hlt8 : ¬ ((i : Int) < (i : Int)) := by omega
                  have HRf : Hid (R11 w wr pb mv (q + 1) ac sh mp g bp d m gf' b N' h' bt V2 ∧ (N' ≤ 3 * (j + 1) ∧ b ≤ j + 1 + 1 ∧ (q + 1) ≤ j + 1)) := ⟨HR3.out.keep0 HKi.out, HRn.out.2⟩
                  clear HR1 HR2 HR3 HF3 HEl HKi HRn HC hlt9
                  go_wp2_with fail
                  go_roundg (L - (j + 1))
                  case rel => exact ⟨j + 1, bt, (q + 1), ac, sh, mp, g, gf', b, N', h', V2, HJ.out, rfl, rfl, by first | rw [hwj] | simp, HRf.out.1, HRf.out.2, by have := HJ30.out; omega⟩
                  case measure => exact Nat.sub_lt_sub_left HJ.out (Nat.lt_succ_self j)
          · have e4 : wrap64 ((IntKind.u64.wrap op).tmod 4) = 3 := H4.out.1
            have HQd : Hid ((d < q7 ∧ m < q7) ∧ (pb ≠ d ∧ pb ≠ m) ∧ (mv ≠ d ∧ mv ≠ m)) := ⟨⟨HQn.out d (Or.inl rfl), HQn.out m (Or.inr (Or.inl rfl))⟩, ⟨fun e => HR4.out.1.a.np.1 (Or.inl e), fun e => HR4.out.1.a.np.1 (Or.inr (Or.inl e))⟩, ⟨fun e => HR4.out.1.nm.1 (Or.inl e), fun e => HR4.out.1.nm.1 (Or.inr (Or.inl e))⟩⟩
            have kd : Kp (fun _ => False) wc wc.drew := (Kp.refl _ _).drew
            have HR5 : Hid (R11 w wc.drew pb mv q ac sh mp g bp d m gf b N h hi V ∧ (N ≤ 3 * j ∧ b ≤ j + 1 ∧ q ≤ j)) := ⟨HR4.out.1.keep0 kd, HR4.out.2⟩
            have hlk := HL4.out.keep kd id
            have h17 : wc.drew.cell? ⟨q7, 17, none⟩ = some (.int .u64 mk) := hlk.cell (j := 17) (by
              have h9 := HL3.out.2.2.2
              rw [List.getElem?_append_right (by simp), List.getElem?_append_right (by simp; omega)]
              simp [h9])
            have hS0 : wc.drew.cell? ⟨pb, 2, none⟩ = some (.pointer (some ⟨bp, 0, none⟩)) ∧ wc.drew.cell? ⟨q7, 17, none⟩ = some (.int .u64 mk) ∧ wc.drew.cell? ⟨q7, 3, none⟩ = some (.int .i64 tn) ∧ wc.drew.cell? ⟨q7, 4, none⟩ = some (.int .i64 nn) := ⟨HR5.out.1.pa.2, h17, hlk.cell (j := 3) rfl, hlk.cell (j := 4) rfl⟩
            have HCr : Hid (Calls _ _ _ wc.drew _) := HR5.out.1.crash HQd.out.1 HQd.out.2.1 HDo.out.wt hS0
            clear kd hlk h17 HR4 HL4
            go_wp2_with fail
            refine vc12_region ⟨by kernel_rfl, by kernel_rfl, by kernel_rfl, by kernel_rfl, by kernel_rfl, by kernel_rfl, by kernel_rfl, by kernel_rfl, by kernel_rfl, by kernel_rfl, by kernel_rfl, by kernel_rfl, by kernel_rfl, by kernel_rfl, by kernel_rfl, by kernel_rfl, by kernel_rfl, by kernel_rfl, by kernel_rfl, by kernel_rfl, by kernel_rfl, by kernel_rfl, by kernel_rfl, by kernel_rfl, by kernel_rfl, by kernel_rfl⟩ pb bp q7 mk tn nn undef undef (fun d _ _ _ _ h => by cases d <;> exact h) (by rfl) (by rfl) (by rfl) hS0 (fun w9 => Kp (fun v => v = d ∨ v = m) wc.drew w9 ∧ Cr11 w9 bp d m b N h) HCr.out ?_
            rintro v2 v3 w6 ⟨k6, hcr⟩
            have HK6 : Hid (Kp (fun v => v = d ∨ v = m) wc.drew w6) := k6
            have HOp : Hid (Calls _ _ _ w6 _) := HR5.out.1.a.reopen k6 hcr (by have := HR5.out.2; have := HJ30.out; omega) (by have := HR5.out.2; have := HJ30.out; omega) HR5.out.1.mm.lt
            have t6 : w6.cell? ⟨pb, 2, none⟩ = some (.pointer (some ⟨bp, 0, none⟩)) := k6.cellv HR5.out.1.pa.2 (fun e => e.elim HQd.out.2.1.1 HQd.out.2.1.2)
            clear k6 hcr hS0 HCr x0
            simp only [Act.put, List.setIfInBounds_toArray, List.set_cons_succ, List.set_cons_zero]
            go_wp2_with fail
            refine HOp.out.mono ?_
            rintro e9 w7 ⟨sh', mp', g', gf', rfl, k7, hz7, hs7, hd7⟩
            have HS7 : Hid ((∃ Z, Shr w7 Z sh' mp' g' bp d m gf' 398 (b + 1) (N + 1) h ∧ ¬ Z pb ∧ ¬ Z mv) ∧ Dur w7 g' bp d m gf' 398 (b + 1) (N + 1) h ∧ Kp (fun v => v = d ∨ v = m) w6 w7 ∧ (w6.heap.size ≤ sh' ∧ w6.heap.size ≤ mp' ∧ w6.heap.size ≤ g' ∧ w6.heap.size ≤ gf')) := ⟨hs7, hd7, k7, hz7⟩
            obtain ⟨Z7, hsz7, _⟩ := hs7
            have HLt7 : Hid (sh' < w7.heap.size ∧ mp' < w7.heap.size ∧ g' < w7.heap.size ∧ gf' < w7.heap.size) := ⟨hsz7.blk sh' (Or.inr (Or.inr (Or.inr (Or.inr (Or.inl rfl))))), hsz7.blk mp' (Or.inr (Or.inr (Or.inr (Or.inr (Or.inr rfl))))), hsz7.blk g' (Or.inr (Or.inr (Or.inl rfl))), hsz7.blk gf' (Or.inr (Or.inr (Or.inr (Or.inl rfl))))⟩
            have HVo : Hid (Calls _ _ _ w7 _) := vopen_ok hsz7 HR5.out.1.a.hs
            clear k7 hz7 hd7 hsz7 HOp t6
            go_wp2_with fail
            refine HVo.out.mono ?_
            rintro e9 w8 ⟨ac', rfl, k8, hac8, l8⟩
            have q0 : w8.cell? ⟨pb, 0, none⟩ = some (.pointer (some ⟨ac, 0, none⟩)) := k8.cellv (HS7.out.2.2.1.cellv (HK6.out.cellv HR5.out.1.pa.1 (fun e => e.elim HQd.out.2.1.1 HQd.out.2.1.2)) (fun e => e.elim HQd.out.2.1.1 HQd.out.2.1.2)) id
            have f0 : w8.frozen? ⟨pb, 0, none⟩ = false := by
              obtain ⟨ax, x3, hlp⟩ := HR5.out.1.a.lp
              exact (((hlp.keep HK6.out (fun e => e.elim HQd.out.2.1.1 HQd.out.2.1.2)).keep HS7.out.2.2.1 (fun e => e.elim HQd.out.2.1.1 HQd.out.2.1.2)).keep k8 id).fz (show 0 < 4 by omega)
            obtain ⟨wx, hwx⟩ : ∃ y, y = w8.setCell ⟨pb, 0, none⟩ (.pointer (some ⟨ac', 0, none⟩)) := ⟨_, rfl⟩
            have HRn : Hid (R11 w wx pb mv q ac' sh' mp' g' bp d m gf' (b + 1) (N + 1) h hi V ∧ ((N + 1) ≤ 3 * (j + 1) ∧ (b + 1) ≤ j + 1 + 1 ∧ q ≤ j + 1)) := ⟨HR5.out.1.again HK6.out HS7.out.2.2.2 HS7.out.2.2.1 HQd.out.2.1 HQd.out.2.2 HS7.out.1 HS7.out.2.1 k8 hac8 l8 hwx HLt7.out HT.out.2, by have := HR5.out.2; omega⟩
            have t9 := HRn.out.1.pa.1
            have hpq := HRn.out.1.prm
            rw [hwx] at t9 hpq
            have HPq : Hid (Calls _ _ _ _ _) := hpq
            clear k8 hac8 l8 HVo hpq HR5 HS7 HLt7 HK6 HQd e4
            go_wp2_with fail
            rw [← hwx]
            rw [← hwx] at HPq
            clear hwx t9 q0 f0
            refine HPq.out.mono ?_
            rintro e9 y1 ⟨rfl, ky1⟩
            have HR1 : Hid (R11 w y1 pb mv q ac' sh' mp' g' bp d m gf' (b + 1) (N + 1) h hi V) := HRn.out.1.keep0 ky1
            have t1 := HR1.out.pa.1
            have hv1 := HR1.out.vts
            obtain ⟨C, hC⟩ : ∃ C, C = cntV V := ⟨_, rfl⟩
            have HC : Hid (C = cntV V ∧ C ≤ 5) := ⟨hC, by rw [hC]; exact cntV_le _⟩
            rw [← hC] at hv1
            have HV1 : Hid (Calls _ _ _ y1 _) := hv1
            clear ky1 HPq hv1
            go_wp2_with fail
            refine HV1.out.mono ?_
            rintro e9 y2 ⟨p1, c1, l1, rfl, ky2, _⟩
            have HR2 : Hid (R11 w y2 pb mv q ac' sh' mp' g' bp d m gf' (b + 1) (N + 1) h hi V) := HR1.out.keep0 ky2
            have t2 := HR2.out.pa.1
            have hln := len_mm uII11 HR2.out.mm 3
            have hv2 := HR2.out.vts
            rw [← hC] at hv2 hln
            have HV2 : Hid (Calls _ _ _ y2 _) := hv2
            clear ky2 HV1 t1 hv2 hC
            go_wp2_with fail
            refine HV2.out.mono ?_
            rintro e9 y3 ⟨p2, c2, l2, rfl, ky3, hf, hlen, hel⟩
            have HR3 : Hid (R11 w y3 pb mv q ac' sh' mp' g' bp d m gf' (b + 1) (N + 1) h hi V) := HR2.out.keep0 ky3
            have HF3 : Hid (Fl y3 (fun b => y2.heap.size ≤ b ∧ b < y3.heap.size) p2 (vflat l2) ∧ l2.length = C) := ⟨hf, hlen⟩
            have HEl : Hid (∀ y ∈ l2, ∃ s8 : Nat, (1 ≤ s8 ∧ s8 ≤ 5) ∧ V s8 ≠ 0 ∧ y.1 = voI (s8 : Int) (V s8) ∧ y.2.oneCell' = true) := hel
            clear ky3 hf hlen hel HV2 t2 hln
            go_wp2_with fail
            go_loopg [170] C (fun gk iv wz => ∃ i : Nat, i ≤ C ∧ gk = C - i ∧ iv = .int .i64 (i : Int) ∧ Hid (Kp (fun _ => False) y3 wz))
            case atStart => exact ⟨0, Nat.zero_le _, rfl, rfl, Kp.refl _ _⟩
            case round =>
              obtain ⟨i, hi9, rfl, rfl, HKi⟩ := hrel
              by_cases hlt9 : i < C
              · have hlt8 : (i : Int) < (C : Int) := by omega
                have hil : i < l2.length := by rw [HF3.out.2]; exact hlt9
                obtain ⟨gv, ov, rfl, hrg⟩ := fl_range HF3.out.1 hil
                obtain ⟨s9, hs9, hv9, e9, h19⟩ := HEl.out l2[i] (List.getElem_mem hil)
                obtain ⟨nv, hnv⟩ : ∃ nv, nv = l2[i].2 := ⟨_, rfl⟩
                rw [e9, ← hnv] at hrg
                rw [← hnv] at h19
                obtain ⟨b9, hb9⟩ : ∃ y, y = V s9 := ⟨_, rfl⟩
                have HMv : Hid (∀ z, Kp (fun _ => False) y3 z → (Instr.lookup 25 (.map (some mv)) (.int .i64 (s9 : Int)) false).run Tryz.prog z = .ok (.int .i64 (b9 : Int)) z) := fun z k => by
                  have h9 := look_mm uII11 zII11 (HR3.out.mm.keep k id) (s9 : Int) (z_wf (by omega))
                  have e8 : ((s9 : Int)).toNat = s9 := by omega
                  rw [TV_at ⟨by omega, by omega, by rw [e8]; exact hv9⟩, e8, ← hb9] at h9
                  exact h9
                rw [← hb9] at hrg
                have HRg9 : Hid (∀ wz, Kp (fun _ => False) y3 wz → wz.rangeAt gv (ov + i * 14) (vcell (voI (s9 : Int) b9) nv)) := fun wz k r u hu => k.cellv (hrg r u hu) id
                have HOv : Hid ((vcell (voI (s9 : Int) b9) nv).toArray.all (·.oneCell') = true) := vcell_one _ h19
                obtain ⟨dv, hdv1, hdv2⟩ := dsVote
                have hwi : wrap64 ((i : Int) + 1) = ((i + 1 : Nat) : Int) := by have := HC.out; unfold wrap64; omega
                have HI9 : Hid (i < C) := hlt9
                clear hil hrg e9 h19 hnv hb9 hv9 hlt9 hs9
                go_wp2_with (first
                  | (refine wpList_load_mid rfl 59 _ rfl gv (ov + i * 14) rfl (vcell (voI (s9 : Int) b9) nv) dv (HRg9.out _ HKi.out) hdv1 hdv2 (by rw [szVote]; rfl) ?_)
                  | (refine wpList_store_all rfl 59 _ _ rfl 14 wr.heap.size zeroVo.toList (vcell (voI (s9 : Int) b9) nv) rfl rfl (by exact Lv.new wr _ _) szVote rfl rfl HOv.out ?_; intro w5 l5 k5; have z0 : w5.cell? ⟨wr.heap.size, 0, none⟩ = some (.int .i64 (s9 : Int)) := l5.cell (j := 0) rfl; have z1 : w5.cell? ⟨wr.heap.size, 1, none⟩ = some (.int .i64 (b9 : Int)) := l5.cell (j := 1) rfl; have z2 : w5.cell? ⟨wr.heap.size, 2, none⟩ = some (.int .i64 (b9 : Int)) := l5.cell (j := 2) rfl; have HK5 : Hid (Kp (fun _ => False) y3 w5) := HKi.out.trans (((Kp.refl (fun _ => False) wr).alloc _).trans k5 (fun b hb e => by have e' : b = wr.heap.size := e; omega)) (fun _ _ e => e); have hlk := HMv.out w5 HK5.out; clear l5 k5))
                go_roundg (C - (i + 1))
                case rel => exact ⟨i + 1, HI9.out, rfl, by first | rw [hwi] | simp, HK5.out⟩
                case measure => exact Nat.sub_lt_sub_left HI9.out (Nat.lt_succ_self i)
              · have hiC : i = C := by omega
                subst hiC
                have hlt8 : ¬ ((i : Int) < (i : Int)) := by omega
                have HRf : Hid (R11 w wr pb mv q ac' sh' mp' g' bp d m gf' (b + 1) (N + 1) h hi V ∧ ((N + 1) ≤ 3 * (j + 1) ∧ (b + 1) ≤ j + 1 + 1 ∧ q ≤ j + 1)) := ⟨HR3.out.keep0 HKi.out, HRn.out.2⟩
                clear HR1 HR2 HR3 HF3 HEl HKi HRn HC hlt9
                go_wp2_with fail
                go_roundg (L - (j + 1))
                case rel => exact ⟨j + 1, hi, q, ac', sh', mp', g', gf', (b + 1), (N + 1), h, V, HJ.out, rfl, rfl, by first | rw [hwj] | simp, HRf.out.1, HRf.out.2, by have := HJ30.out; omega⟩
                case measure => exact Nat.sub_lt_sub_left HJ.out (Nat.lt_succ_self j)
    · have hjL : j = L := by omega
      subst hjL
      have hlt2 : ¬ ((j : Int) < (j : Int)) := by omega
      have HKf : Hid (Kp (fun _ => False) w wr) := HR.out.1.a.k
      clear HR hlt HE HGa
      go_wp2_with fail
      go_ret
      exact ⟨rfl, HKf.out⟩
end Go.Proofs.YtippipeebkkghaaGreatDoor
