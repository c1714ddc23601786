/- The walk of the law LeadOpens. -/
import Derived.Test.YtjpdbhkggcojaaaEl
import Derived.Test.YtjpdbhkggcojaaaLch
namespace Go.Proofs.Ytjpdbhkggcojaaa
set_option linter.unusedVariables false
open Go.RowKit Go.Deep Go.Maps

theorem map_no_cell {w : World} {m q c : Nat} {T : Int → Option Value} (h : Mm w m q c T) (o : Nat) : w.cell? ⟨m, o, none⟩ = none := by
  obtain ⟨D, ⟨es, clock, hb, r⟩, h2⟩ := h
  simp [World.cell?, hb]
theorem Fl.notmap {Z : Nat → Prop} {w : World} {p : Option Addr} {cells : List Value} {m q c : Nat} {T : Int → Option Value} (h : Fl w Z p cells) (hm : Mm w m q c T) : Fl w (fun b => Z b ∧ b ≠ m) p cells := fun j u hu => by
  obtain ⟨b, o, e, hz, hc⟩ := h j u hu
  refine ⟨b, o, e, ⟨hz, fun eb => ?_⟩, hc⟩
  subst eb
  rw [map_no_cell hm] at hc
  cases hc
theorem Ni.notmap {Z : Nat → Prop} {w : World} {zs : List Int} {nv : Value} {m q c : Nat} {T : Int → Option Value} (h : Ni w Z zs nv) (hm : Mm w m q c T) : Ni w (fun b => Z b ∧ b ≠ m) zs nv := by
  obtain ⟨p, cap, e, hf, hn⟩ := h
  exact ⟨p, cap, e, hf.notmap hm, hn⟩
/-- another map is written -/
theorem Tr.keepM {w w' : World} {t mb mp qb qp cb cp : Nat} {bal frm nxt : Int} {pr : List Bool} {B : Int → Option (Vo × Value)} {O : Int → Option (Pq × Value)} {m q c : Nat} {T : Int → Option Value} (h : Tr w t mb mp qb qp cb cp bal frm nxt pr B O) (hm : Mm w m q c T) (k : Kp (fun b => b = m) w w') (h1 : t ≠ m) (h2 : mb ≠ m) (h3 : mp ≠ m) : Tr w' t mb mp qb qp cb cp bal frm nxt pr B O :=
  ⟨h.lv.keep k h1, h.len, h.b.keep k h2, h.o.keep k h3, h.ne, fun z x hx => (((h.nb z x hx).notmap hm).keep k (fun b hb e => hb.2 e)).mono (fun b hb => hb.1), fun z x hx => ⟨(((h.no z x hx).1.notmap hm).keep k (fun b hb e => hb.2 e)).mono (fun b hb => hb.1), (h.no z x hx).2⟩, h.pos⟩
/-- the numbers of what is proposed -/
def Wo (O : Int → Option (Pq × Value)) : Int → Option Value := fun z => (O z).map (fun x => .int .i64 x.1.c.id)
theorem wo_upd (O : Int → Option (Pq × Value)) (z : Int) (x : Pq × Value) : upd (Wo O) z (.int .i64 x.1.c.id) = Wo (updO O z x) := by
  funext y
  unfold upd Wo updO
  by_cases e : y = z
  · rw [if_pos e, if_pos e]; rfl
  · rw [if_neg e, if_neg e]
theorem uMI : Try.prog.underlying 53 = some (.map 3 3) := Try.underlying53
theorem zInt (w : World) : (zeroValue 3).run Try.prog w = .ok (.int .i64 0) w := by kernel_rfl
theorem szDl : (Try.prog.info? 38).map (·.size) = some 16 := by kernel_rfl
theorem dsDl : ∃ d, Try.prog.underlying 38 = some d ∧ d.isRow = true := ⟨_, Try.underlying38, rfl⟩
theorem key_range {w : World} {m q : Nat} {D : DataW Value} (h : w.ownsMap Try.prog 3 idR m q D) {z : Int} (hz : Maps.has D (.int .i64 z) = true) : -9223372036854775808 ≤ z ∧ z ≤ 9223372036854775807 := by
  obtain ⟨es, rfl, hp, _⟩ := h.entries intLaw
  obtain ⟨es', e, hko⟩ := h.keysOf
  obtain rfl : es = es' := by simpa using e
  rw [has_eq, List.any_eq_true] at hz
  obtain ⟨p, hp', hs⟩ := hz
  obtain ⟨v, hv⟩ := hko p hp'
  obtain ⟨x, hx1, hx, hwf⟩ := Maps.keyOf_i64 Try.underlying3 hv
  rw [hx] at hs
  have ea : x = z := by simpa [Lit.sameKey] using hs
  rw [ea] at hwf
  exact wf_range hwf
def dl0 : Dl := ⟨0, 0, 0, cs00, [], []⟩
theorem dc_one (x : Dl) {nv vv : Value} (h : nv.oneCell' = true) (h' : vv.oneCell' = true) : (dcell x nv vv).toArray.all (·.oneCell') = true := all_oneCell_toArray (fun v hv => by
  simp only [dcell, List.mem_cons, List.mem_append, List.not_mem_nil, or_false] at hv
  rcases hv with rfl | rfl | rfl | hv | rfl
  · rfl
  · rfl
  · rfl
  · rcases hv with rfl | rfl | rfl | rfl | rfl | rfl | rfl | rfl | rfl | rfl | rfl | rfl <;> first | rfl | exact h
  · exact h')
/-- the state of the law: what is proposed, and what the law holds of it -/
def So (w : World) (t mb mp m k : Nat) (F : Int) : Prop := ∃ nxt O qp cp qm, Tr w t mb mp 0 qp 0 cp 5 F nxt (List.replicate 16 false) (fun _ => none) O ∧ qp ≤ k ∧ cp ≤ k ∧ F ≤ nxt ∧ Mm w m qm cp (Wo O) ∧ qm ≤ k

set_option maxRecDepth 100000 in
set_option maxHeartbeats 8000000 in
theorem leadOpens_walk (a : Int) (v : Value) (L : Nat) (w : World) (hv : Dls w v L) :
    Calls Try.prog 8 #[.int .i64 a, v] w fun e w' => e = .returned (.bool true) ∧ Kp (fun _ => False) w w' := by
  obtain ⟨p, c, D, rfl, hc, hL, hD⟩ := hv
  have e1 : wrap64 ((IntKind.u64.wrap a).tmod 4) = ((mm 4 a : Nat) : Int) := mm_eq 4 a (by omega) (by omega)
  have l1 := mm_lt 4 a (by omega)
  obtain ⟨F, hF⟩ : ∃ x, x = mm 4 a + 1 := ⟨_, rfl⟩
  have e3 : wrap64 (1 + ((mm 4 a : Nat) : Int)) = (F : Int) := by unfold wrap64; omega
  have hF1 : 1 ≤ (F : Int) := by omega
  have hF4 : (F : Int) ≤ 4 := by omega
  have HD : Hid (∀ i, i < L → ∃ nv vv, Dat w p i (D i) nv vv) := hD
  have hL9 : (L : Int) ≤ 17592186044416 := by omega
  have HN : Hid (Calls _ _ _ w _) := tnew_ok 5 (F : Int) w (by omega) (by omega)
  clear hD hc hL l1 hF
  have hmm : ∀ (t : TypeId) (w : World), (Instr.makeMap t none).run Try.prog w = .ok (.map (some w.heap.size)) (w.alloc (.map #[] 0)) := fun _ _ => rfl
  go_enter Try.func8, Try.ntmps8
  go_wp2_with fail
  simp only [e1, e3]
  clear e1 e3
  refine HN.out.mono ?_
  rintro e w1 ⟨t, mb, mp, rfl, k1, ht, hb, hp, hT1⟩
  have HT1 : Hid (Tr w1 t mb mp 0 0 0 0 5 (F : Int) (F : Int) (List.replicate 16 false) (fun _ => none) (fun _ => none)) := hT1
  have HB : Hid (w.heap.size ≤ t ∧ w.heap.size ≤ mb ∧ w.heap.size ≤ mp) := ⟨ht, hb, hp⟩
  clear hT1 ht hb hp HN
  go_wp2_with fail
  obtain ⟨w4, hw4⟩ : ∃ x, x = w1.alloc (.map #[] 0) := ⟨_, rfl⟩
  rw [← hw4]
  have k4 : Kp (fun _ => False) w1 w4 := by rw [hw4]; exact (Kp.refl _ _).alloc _
  have HM4 : Hid (Mm w4 w1.heap.size 0 0 (Wo (fun _ => none))) := by rw [hw4]; exact Mm.made w1
  have HT4 : Hid (Tr w4 t mb mp 0 0 0 0 5 (F : Int) (F : Int) (List.replicate 16 false) (fun _ => none) (fun _ => none)) := HT1.out.keep k4
  have HK4 : Hid (Kp (fun b => w.heap.size ≤ b) w w4) := (k1.trans k4 (fun _ _ e => e)).mono (fun _ _ e => e.elim)
  have HMb : Hid (w.heap.size ≤ w1.heap.size ∧ t ≠ w1.heap.size ∧ mb ≠ w1.heap.size ∧ mp ≠ w1.heap.size) := by
    have := HT1.out.lt
    exact ⟨k1.size, by omega, by omega, by omega⟩
  obtain ⟨m, hm⟩ : ∃ m, m = w1.heap.size := ⟨_, rfl⟩
  rw [← hm] at HM4 HMb ⊢
  clear hw4 hm HT1 k1 k4
  go_loopg [35] L (fun gk iv wr => ∃ j : Nat, j ≤ L ∧ j ≤ 21 ∧ gk = L - j ∧ iv = .int .i64 j ∧ Hid (Kp (fun b => w.heap.size ≤ b) w wr) ∧ Hid (So wr t mb mp m j F))
  case atStart => exact ⟨0, by omega, by omega, rfl, rfl, HK4, ⟨_, _, 0, 0, 0, HT4.out, by omega, by omega, by omega, HM4.out, by omega⟩⟩
  case round =>
    obtain ⟨j, hj, hj21, rfl, rfl, HKr, HSo⟩ := hrel
    obtain ⟨wr1, rfl⟩ : ∃ x, x = wr := ⟨_, rfl⟩
    clear HT4 HM4 HK4
    by_cases hend : (j : Int) < (L : Int) ∧ (j : Int) ≤ 20
    · obtain ⟨hlt, h20⟩ := hend
      obtain ⟨nv, vv, hDj⟩ := HD.out j (by omega)
      obtain ⟨b, o, rfl, hbl, hr⟩ := hDj.r
      have hr1 : wr1.rangeAt b (o + j * 16) (dcell (D j) nv vv) := fun i v hv => HKr.out.cellv (hr i v hv) (fun e => absurd (show w.heap.size ≤ b from e) (Nat.not_le_of_lt hbl))
      have HR : Hid (wr1.rangeAt b (o + j * 16) (dcell (D j) nv vv)) := hr1
      have HNi : Hid (Ni wr1 (· < w.heap.size) (D j).nodes nv) := hDj.n.keep HKr.out (fun b hb e => by have : b < w.heap.size := hb; omega)
      have HO : Hid ((dcell (D j) nv vv).toArray.all (·.oneCell') = true) := dc_one _ (by obtain ⟨_, _, e, _⟩ := hDj.n; rw [e]; rfl) (by obtain ⟨_, _, _, e, _⟩ := hDj.v; rw [e]; rfl)
      obtain ⟨x, hx⟩ : ∃ x, x = D j := ⟨_, rfl⟩
      rw [← hx] at HR HNi HO
      obtain ⟨xs, hxs⟩ : ∃ xs, xs = dcell x nv vv := ⟨_, rfl⟩
      rw [← hxs] at HR HO
      have HXS : Hid (xs = dcell x nv vv ∧ xs.length = 16) := ⟨hxs, by rw [hxs]; rfl⟩
      obtain ⟨dv, hdv1, hdv2⟩ := dsDl
      have e1 : wrap64 ((IntKind.u64.wrap x.slot).tmod 8) = ((mm 8 x.slot : Nat) : Int) := mm_eq 8 x.slot (by omega) (by omega)
      have l1 := mm_lt 8 x.slot (by omega)
      obtain ⟨n, hn⟩ : ∃ n, n = mm 8 x.slot := ⟨_, rfl⟩
      rw [← hn] at e1 l1
      have hn8 : (n : Int) ≤ 7 := by omega
      clear hr hr1 hDj hx hxs hn l1 hbl
      obtain ⟨nxt, O, qp, cp, qm, hT, hqp, hcp, hnx, hMm, hqm⟩ := HSo.out
      have HT : Hid (Tr wr1 t mb mp 0 qp 0 cp 5 F nxt (List.replicate 16 false) (fun _ => none) O) := hT
      have HMm : Hid (Mm wr1 m qm cp (Wo O)) := hMm
      have HQ : Hid (qp ≤ j ∧ cp ≤ j ∧ (F : Int) ≤ nxt ∧ qm ≤ j) := ⟨hqp, hcp, hnx, hqm⟩
      clear hT hqp hcp hnx hMm hqm HSo
      go_wp2_with (first
        | (refine wpList_load_mid rfl 38 _ rfl b (o + j * 16) rfl xs dv HR.out hdv1 hdv2 (by rw [szDl, HXS.out.2]) ?_)
        | (refine wpList_store_all rfl 38 _ _ rfl 16 wr1.heap.size (dcell dl0 nil0 nil0) xs rfl rfl (by exact Lv.new wr1 _ _) szDl rfl HXS.out.2 HO.out ?_; intro w5 hl5 k5; have kn5 : Kp (fun _ => False) wr1 w5 := ((Kp.refl (fun _ => False) wr1).alloc _).trans k5 (fun b hb e => by omega); have HL5 : Hid (Lv w5 wr1.heap.size xs) := hl5; have s2 : w5.cell? ⟨wr1.heap.size, 2, none⟩ = some (.int .i64 x.slot) := HL5.out.cell (j := 2) (by rw [HXS.out.1]; rfl); clear hl5 k5)
        | (refine wpList_load_lv rfl 35 _ rfl wr1.heap.size 3 12 xs _ HL5.out rfl Try.underlying35 rfl szCmd (by rw [HXS.out.2]; omega) ?_; rw [show ((xs.drop 3).take 12).toArray = cmdA x.c nv from by rw [HXS.out.1]; rfl]))
      have HT5 : Hid (Tr w5 t mb mp 0 qp 0 cp 5 F nxt (List.replicate 16 false) (fun _ => none) O) := HT.out.keep kn5
      have HM5 : Hid (Mm w5 m qm cp (Wo O)) := HMm.out.keep kn5 id
      have HK5 : Hid (Kp (fun b => w.heap.size ≤ b) w w5) := HKr.out.trans kn5 (fun _ _ e => e.elim)
      have HN5 : Hid (Ni w5 (· < w5.heap.size) x.nodes nv) := (HNi.out.keep kn5 (fun _ _ => id)).here
      have HG : Hid (t < wr1.heap.size ∧ mb < wr1.heap.size ∧ mp < wr1.heap.size ∧ m < wr1.heap.size) := ⟨HT.out.lt.1, HT.out.lt.2.1, HT.out.lt.2.2, HMm.out.lt⟩
      have hw8 : -9223372036854775808 ≤ (n : Int) ∧ (n : Int) ≤ 9223372036854775807 := by omega
      have HW8 : Hid (-9223372036854775808 ≤ (n : Int) ∧ (n : Int) ≤ 9223372036854775807) := hw8
      clear HT HMm HKr HNi HR kn5 s2 e1 hw8
      by_cases hnF : (n : Int) < (F : Int)
      · refine (tpropose_arg HT5.out (n : Int) (by omega) (cmdA x.c nv)).mono ?_
        rintro e w6 ⟨rfl, k6⟩
        have HT6 : Hid (Tr w6 t mb mp 0 qp 0 cp 5 F nxt (List.replicate 16 false) (fun _ => none) O) := HT5.out.keep k6
        have HM6 : Hid (Mm w6 m qm cp (Wo O)) := HM5.out.keep k6 id
        have HK6 : Hid (Kp (fun b => w.heap.size ≤ b) w w6) := HK5.out.trans k6 (fun _ _ e => e.elim)
        have hlk := look_mm_ok uMI zInt HM6.out (n : Int) (z_wf HW8.out)
        obtain ⟨iv, hiv⟩ : ∃ iv, iv = (Wo O (n : Int)).getD (.int .i64 0) := ⟨_, rfl⟩
        obtain ⟨th, hth⟩ : ∃ th, th = (Wo O (n : Int)).isSome := ⟨_, rfl⟩
        rw [← hiv, ← hth] at hlk
        clear hiv hth k6 HT5 HM5 HK5
        go_wp2
        go_roundg (L - (j + 1))
        case rel => exact ⟨j + 1, by omega, by omega, rfl, by go_num, HK6, ⟨nxt, O, qp, cp, qm, HT6.out, by have := HQ.out; omega, by have := HQ.out; omega, HQ.out.2.2.1, HM6.out, by have := HQ.out; omega⟩⟩
        case measure => omega
      · cases hO : O (n : Int) with
        | none =>
          have HO5 : Hid (O (n : Int) = none) := hO
          clear hO
          refine (tpropose_new HT5.out (n : Int) (by omega) x.c x.nodes nv HN5.out HO5.out (by have := HQ.out; omega)).mono ?_
          rintro e w6 ⟨rfl, k6, nv6, hT6⟩
          have HT6 : Hid (Tr w6 t mb mp 0 (qp + 1) 0 (cp + 1) 5 F (max nxt (nextOf n)) (List.replicate 16 false) (fun _ => none) (updO O n (⟨x.c, x.nodes, List.replicate 16 false⟩, nv6))) := hT6
          have HM6 : Hid (Mm w6 m qm cp (Wo O)) := HM5.out.keep k6 (fun e => by have := HMb.out; omega)
          have HK6 : Hid (Kp (fun b => w.heap.size ≤ b) w w6) := HK5.out.trans k6 (fun b _ e => by have := HB.out; rcases e with rfl | rfl <;> omega)
          have HL6 : Hid (Lv w6 wr1.heap.size xs) := HL5.out.keep k6 (fun e => by have := HG.out; omega)
          have s3 : w6.cell? ⟨wr1.heap.size, 3, none⟩ = some (.int .i64 x.c.id) := HL6.out.cell (j := 3) (by rw [HXS.out.1]; rfl)
          have hlk := look_mm_ok uMI zInt HM6.out (n : Int) (z_wf HW8.out)
          have hwn : Wo O (n : Int) = none := by unfold Wo; rw [HO5.out]; rfl
          rw [hwn, Option.getD_none, Option.isSome_none] at hlk
          have HWn : Hid (Wo O (n : Int) = none) := hwn
          clear hT6 k6 HT5 HM5 HK5 hwn HL5
          go_wp2_with (at_mapUpdate; go_must (refine wpList_put_mm rfl _ _ _ rfl uMI m qm cp (Wo O) HM6.out rfl (by have := HQ.out; omega) (n : Int) (z_wf HW8.out) rfl (.int .i64 x.c.id) rfl ?_); intro w7 hm7 k7; have HT7 : Hid (Tr w7 t mb mp 0 (qp + 1) 0 (cp + 1) 5 F (max nxt (nextOf n)) (List.replicate 16 false) (fun _ => none) (updO O n (⟨x.c, x.nodes, List.replicate 16 false⟩, nv6))) := HT6.out.keepM HM6.out k7 HMb.out.2.1 HMb.out.2.2.1 HMb.out.2.2.2; have HK7 : Hid (Kp (fun b => w.heap.size ≤ b) w w7) := HK6.out.trans k7 (fun b _ e => by have := HMb.out; omega); have HM7 : Hid (Mm w7 m (qm + 1) (cp + 1) (Wo (updO O n (⟨x.c, x.nodes, List.replicate 16 false⟩, nv6)))) := (by rw [HWn.out] at hm7; rw [← wo_upd]; exact hm7); clear hm7 k7)
          go_roundg (L - (j + 1))
          case rel => exact ⟨j + 1, by omega, by omega, rfl, by go_num, HK7, ⟨_, _, qp + 1, cp + 1, qm + 1, HT7.out, by have := HQ.out; omega, by have := HQ.out; omega, by have := HQ.out.2.2.1; omega, HM7.out, by have := HQ.out; omega⟩⟩
          case measure => omega
        | some y =>
          have HO5 : Hid (O (n : Int) = some y) := hO
          have hwy : Wo O (n : Int) = some (.int .i64 y.1.c.id) := by unfold Wo; rw [hO]; rfl
          have HWy : Hid (Wo O (n : Int) = some (.int .i64 y.1.c.id)) := hwy
          clear hO hwy
          by_cases he : y.1.c.id = x.c.id
          · have hne : (y.1.c.id == x.c.id) = true := by simpa using he
            refine (tpropose_same HT5.out (n : Int) (by omega) x.c x.nodes nv HN5.out y HO5.out he).mono ?_
            rintro e w6 ⟨rfl, k6⟩
            have HT6 : Hid (Tr w6 t mb mp 0 qp 0 cp 5 F nxt (List.replicate 16 false) (fun _ => none) O) := HT5.out.keep k6
            have HM6 : Hid (Mm w6 m qm cp (Wo O)) := HM5.out.keep k6 id
            have HK6 : Hid (Kp (fun b => w.heap.size ≤ b) w w6) := HK5.out.trans k6 (fun _ _ e => e.elim)
            have HL6 : Hid (Lv w6 wr1.heap.size xs) := HL5.out.keep k6 id
            have s3 : w6.cell? ⟨wr1.heap.size, 3, none⟩ = some (.int .i64 x.c.id) := HL6.out.cell (j := 3) (by rw [HXS.out.1]; rfl)
            have hlk := look_mm_ok uMI zInt HM6.out (n : Int) (z_wf HW8.out)
            rw [HWy.out, Option.getD_some, Option.isSome_some] at hlk
            clear k6 HT5 HM5 HK5 he HL5
            go_wp2
            go_roundg (L - (j + 1))
            case rel => exact ⟨j + 1, by omega, by omega, rfl, by go_num, HK6, ⟨nxt, O, qp, cp, qm, HT6.out, by have := HQ.out; omega, by have := HQ.out; omega, HQ.out.2.2.1, HM6.out, by have := HQ.out; omega⟩⟩
            case measure => omega
          · have hne : (y.1.c.id == x.c.id) = false := by simpa using he
            refine (tpropose_other HT5.out (n : Int) (by omega) x.c x.nodes nv HN5.out y HO5.out he).mono ?_
            rintro e w6 ⟨rfl, k6⟩
            have HT6 : Hid (Tr w6 t mb mp 0 qp 0 cp 5 F nxt (List.replicate 16 false) (fun _ => none) O) := HT5.out.keep k6
            have HM6 : Hid (Mm w6 m qm cp (Wo O)) := HM5.out.keep k6 id
            have HK6 : Hid (Kp (fun b => w.heap.size ≤ b) w w6) := HK5.out.trans k6 (fun _ _ e => e.elim)
            have HL6 : Hid (Lv w6 wr1.heap.size xs) := HL5.out.keep k6 id
            have s3 : w6.cell? ⟨wr1.heap.size, 3, none⟩ = some (.int .i64 x.c.id) := HL6.out.cell (j := 3) (by rw [HXS.out.1]; rfl)
            have hlk := look_mm_ok uMI zInt HM6.out (n : Int) (z_wf HW8.out)
            rw [HWy.out, Option.getD_some, Option.isSome_some] at hlk
            clear k6 HT5 HM5 HK5 he HL5
            go_wp2
            go_roundg (L - (j + 1))
            case rel => exact ⟨j + 1, by omega, by omega, rfl, by go_num, HK6, ⟨nxt, O, qp, cp, qm, HT6.out, by have := HQ.out; omega, by have := HQ.out; omega, HQ.out.2.2.1, HM6.out, by have := HQ.out; omega⟩⟩
            case measure => omega
    · by_cases hlt : (j : Int) < (L : Int)
      · have h20 : 20 < (j : Int) := by omega
        obtain ⟨nv, vv, hDj⟩ := HD.out j (by omega)
        obtain ⟨b, o, rfl, hbl, hr⟩ := hDj.r
        have hr1 : wr1.rangeAt b (o + j * 16) (dcell (D j) nv vv) := fun i v hv => HKr.out.cellv (hr i v hv) (fun e => absurd (show w.heap.size ≤ b from e) (Nat.not_le_of_lt hbl))
        have HR : Hid (wr1.rangeAt b (o + j * 16) (dcell (D j) nv vv)) := hr1
        have HO : Hid ((dcell (D j) nv vv).toArray.all (·.oneCell') = true) := dc_one _ (by obtain ⟨_, _, e, _⟩ := hDj.n; rw [e]; rfl) (by obtain ⟨_, _, _, e, _⟩ := hDj.v; rw [e]; rfl)
        obtain ⟨xs, hxs⟩ : ∃ xs, xs = dcell (D j) nv vv := ⟨_, rfl⟩
        rw [← hxs] at HR HO
        have HXS : Hid (xs.length = 16) := by show _ = _; rw [hxs]; rfl
        obtain ⟨dv, hdv1, hdv2⟩ := dsDl
        clear hr hr1 hDj hxs hbl hend
        go_wp2_with (first
          | (refine wpList_load_mid rfl 38 _ rfl b (o + j * 16) rfl xs dv HR.out hdv1 hdv2 (by rw [szDl, HXS.out]) ?_)
          | (refine wpList_store_all rfl 38 _ _ rfl 16 wr1.heap.size (dcell dl0 nil0 nil0) xs rfl rfl (by exact Lv.new wr1 _ _) szDl rfl HXS.out HO.out ?_; intro wx hl5 k5; have kn5 : Kp (fun _ => False) wr1 wx := ((Kp.refl (fun _ => False) wr1).alloc _).trans k5 (fun b hb e => by omega); clear hl5 k5))
        have HSx : Hid (So wx t mb mp m j F) := by
          obtain ⟨nxt, O, qp, cp, qm, hT, hqp, hcp, hnx, hMm, hqm⟩ := HSo.out
          exact ⟨nxt, O, qp, cp, qm, hT.keep kn5, hqp, hcp, hnx, hMm.keep kn5 id, hqm⟩
        have HKx : Hid (Kp (fun _ => False) w wx) := (HKr.out.trans kn5 (fun _ _ e => e.elim)).mono (fun b hb e => by omega)
        clear HSo HKr kn5 HR HO
        obtain ⟨nxt, O, qp, cp, qm, hT, hqp, hcp, hnx, hMm, hqm⟩ := HSx.out
        have hcp9 : (cp : Int) ≤ 21 := by omega
        have hnF : (F : Int) ≤ nxt := hnx
        have HOp : Hid (∀ u, Kp (fun _ => False) wx u → Calls _ _ _ u _) := fun u ku => topen_ok (hT.keep ku) (by omega)
        have HNx : Hid (∀ u, Kp (fun _ => False) wx u → Calls _ _ _ u _) := fun u ku => tnext_ok (hT.keep ku)
        have HTx : Hid (Tr wx t mb mp 0 qp 0 cp 5 F nxt (List.replicate 16 false) (fun _ => none) O) := hT
        have HMx : Hid (Mm wx m qm cp (Wo O)) := hMm
        clear hT hMm hqp hcp hqm hnx HSx
        refine (HOp.out wx (Kp.refl _ _)).mono ?_
        rintro e w3 ⟨v, ss, rfl, hsl, hrow, k3⟩
        obtain ⟨q, cq, rfl, hfl⟩ := own_fl hrow
        have HSl : Hid (Sl O cp ss) := hsl
        have HFl : Hid (Fl w3 (fun b => wx.heap.size ≤ b ∧ b < w3.heap.size) q (ss.map encI)) := hfl
        have HK3 : Hid (Kp (fun _ => False) wx w3) := k3
        clear hsl hrow hfl k3
        go_wp2
        go_loopg [94] cp (fun gk iv wr => ∃ i : Nat, i ≤ cp ∧ gk = cp - i ∧ iv = .int .i64 i ∧ Kp (fun _ => False) w3 wr)
        case atStart => exact ⟨0, by omega, rfl, rfl, Kp.refl _ _⟩
        case round =>
          obtain ⟨i, hi, rfl, rfl, kr⟩ := hrel
          obtain ⟨wr2, rfl⟩ : ∃ x, x = wr := ⟨_, rfl⟩
          have HKi : Hid (Kp (fun _ => False) wx wr2) := HK3.out.trans kr (fun _ _ e => e)
          by_cases hlt : (i : Int) < (cp : Int)
          · have hiz : i < ss.length := by rw [HSl.out.len]; omega
            obtain ⟨bb, off, rfl, _, hcl⟩ := HFl.out i (encI ss[i]) (by rw [List.getElem?_map, List.getElem?_eq_getElem hiz]; rfl)
            have hcx := kr.cellv hcl id
            obtain ⟨z, hz⟩ : ∃ z, z = ss[i] := ⟨_, rfl⟩
            have hzO : (O z).isSome = true := (HSl.out.mem z).1 (by rw [hz]; exact List.getElem_mem hiz)
            obtain ⟨y, hy⟩ := Option.isSome_iff_exists.1 hzO
            rw [← hz] at hcx
            have HzR : Hid (-9223372036854775808 ≤ z ∧ z ≤ 9223372036854775807) := by
              have hw := HTx.out.o
              obtain ⟨D', ho, hd⟩ := hw
              have hh := (hd.look z (.bool false)).1
              rw [psome, hzO] at hh
              exact key_range ho hh
            have HPd : Hid (Calls _ _ _ wr2 _) := tproposed_ok (HTx.out.keep HKi.out) z HzR.out
            rw [hy, Option.isSome_some, Option.getD_some] at HPd
            have HWy : Hid (Wo O z = some (.int .i64 y.1.c.id)) := by show _ = _; unfold Wo; rw [hy]; rfl
            clear hcl hz hzO hy hiz
            go_wp2_with fail
            refine HPd.out.mono ?_
            rintro e w5 ⟨v5, rfl, k5, nv5, rfl, hni⟩
            have HO5 : Hid ((cmdA y.1.c nv5).toList.toArray.all (·.oneCell') = true) := cmd_one _ (by obtain ⟨_, _, e, _⟩ := hni; rw [e]; rfl)
            have HK5 : Hid (Kp (fun _ => False) wx w5) := HKi.out.trans k5 (fun _ _ e => e)
            have HK35 : Hid (Kp (fun _ => False) w3 w5) := kr.trans k5 (fun _ _ e => e)
            clear hni k5 HPd kr
            go_wp2_with (refine wpList_store_all rfl 35 _ _ rfl 12 w5.heap.size zeroC.toList (cmdA y.1.c nv5).toList rfl rfl (by exact Lv.new w5 _ _) szCmd rfl rfl HO5.out ?_; intro w6 hl6 k6; have kn6 : Kp (fun _ => False) w5 w6 := ((Kp.refl (fun _ => False) w5).alloc _).trans k6 (fun b hb e => by omega); have s0 : w6.cell? ⟨w5.heap.size, 0, none⟩ = some (.int .i64 y.1.c.id) := hl6.cell (j := 0) rfl; have HK36 : Hid (Kp (fun _ => False) w3 w6) := HK35.out.trans kn6 (fun _ _ e => e); have hlk := look_mm_ok uMI zInt (HMx.out.keep (HK5.out.trans kn6 (fun _ _ e => e)) id) z (z_wf HzR.out); rw [HWy.out, Option.getD_some, Option.isSome_some] at hlk; clear hl6 k6 kn6)
            go_roundg (cp - (i + 1))
            case rel => exact ⟨i + 1, by omega, rfl, by go_num, HK36.out⟩
            case measure => omega
          · obtain rfl : i = cp := by omega
            go_wp2_with fail
            refine (HOp.out wr2 HKi.out).mono ?_
            rintro e w5 ⟨v5, ss5, rfl, hsl5, hrow5, k5⟩
            obtain ⟨q5, cq5, rfl, hfl5⟩ := own_fl hrow5
            have HK5 : Hid (Kp (fun _ => False) wx w5) := HKi.out.trans k5 (fun _ _ e => e)
            have hln : ∀ ty, (Builtin.len_ #[53] ty #[.map (some m)]).run Try.prog w5 = .ok (.int .i64 (i : Int)) w5 := len_mm uMI (HMx.out.keep HK5.out id)
            clear hsl5 hrow5 hfl5 k5
            go_wp2_with fail
            refine (HNx.out w5 HK5.out).mono ?_
            rintro e w6 ⟨rfl, hw6⟩
            obtain rfl := hw6.symm
            clear hw6 hln
            go_wp2_with fail
            refine (HOp.out w5 HK5.out).mono ?_
            rintro e w7 ⟨v7, ss7, rfl, hsl7, hrow7, k7⟩
            obtain ⟨q7, cq7, rfl, hfl7⟩ := own_fl hrow7
            have HIs : Hid (Calls _ _ _ w7 _) := issorted_ok _ q7 cq7 i ss7 w7 hfl7 hsl7.len.symm (by omega) hsl7.le
            have HK7 : Hid (Kp (fun _ => False) wx w7) := HK5.out.trans k7 (fun _ _ e => e)
            clear hsl7 hrow7 hfl7 k7
            go_wp2_with fail
            refine HIs.out.mono ?_
            rintro e w8 ⟨rfl, k8⟩
            go_wp2
            go_ret
            exact ⟨rfl, HKx.out.trans (HK7.out.trans k8 (fun _ _ e => e)) (fun _ _ e => e)⟩
      · obtain ⟨wx, hwx⟩ : ∃ x, x = wr1 := ⟨_, rfl⟩
        have HSx : Hid (So wx t mb mp m j F) := by rw [hwx]; exact HSo.out
        have HKx : Hid (Kp (fun _ => False) w wx) := by rw [hwx]; exact HKr.out.mono (fun b hb e => by omega)
        rw [← hwx]
        clear HSo HKr hend hwx
        go_wp2_with fail
        obtain ⟨nxt, O, qp, cp, qm, hT, hqp, hcp, hnx, hMm, hqm⟩ := HSx.out
        have hcp9 : (cp : Int) ≤ 21 := by omega
        have hnF : (F : Int) ≤ nxt := hnx
        have HOp : Hid (∀ u, Kp (fun _ => False) wx u → Calls _ _ _ u _) := fun u ku => topen_ok (hT.keep ku) (by omega)
        have HNx : Hid (∀ u, Kp (fun _ => False) wx u → Calls _ _ _ u _) := fun u ku => tnext_ok (hT.keep ku)
        have HTx : Hid (Tr wx t mb mp 0 qp 0 cp 5 F nxt (List.replicate 16 false) (fun _ => none) O) := hT
        have HMx : Hid (Mm wx m qm cp (Wo O)) := hMm
        clear hT hMm hqp hcp hqm hnx HSx
        refine (HOp.out wx (Kp.refl _ _)).mono ?_
        rintro e w3 ⟨v, ss, rfl, hsl, hrow, k3⟩
        obtain ⟨q, cq, rfl, hfl⟩ := own_fl hrow
        have HSl : Hid (Sl O cp ss) := hsl
        have HFl : Hid (Fl w3 (fun b => wx.heap.size ≤ b ∧ b < w3.heap.size) q (ss.map encI)) := hfl
        have HK3 : Hid (Kp (fun _ => False) wx w3) := k3
        clear hsl hrow hfl k3
        go_wp2
        go_loopg [94] cp (fun gk iv wr => ∃ i : Nat, i ≤ cp ∧ gk = cp - i ∧ iv = .int .i64 i ∧ Kp (fun _ => False) w3 wr)
        case atStart => exact ⟨0, by omega, rfl, rfl, Kp.refl _ _⟩
        case round =>
          obtain ⟨i, hi, rfl, rfl, kr⟩ := hrel
          obtain ⟨wr2, rfl⟩ : ∃ x, x = wr := ⟨_, rfl⟩
          have HKi : Hid (Kp (fun _ => False) wx wr2) := HK3.out.trans kr (fun _ _ e => e)
          by_cases hlt : (i : Int) < (cp : Int)
          · have hiz : i < ss.length := by rw [HSl.out.len]; omega
            obtain ⟨bb, off, rfl, _, hcl⟩ := HFl.out i (encI ss[i]) (by rw [List.getElem?_map, List.getElem?_eq_getElem hiz]; rfl)
            have hcx := kr.cellv hcl id
            obtain ⟨z, hz⟩ : ∃ z, z = ss[i] := ⟨_, rfl⟩
            have hzO : (O z).isSome = true := (HSl.out.mem z).1 (by rw [hz]; exact List.getElem_mem hiz)
            obtain ⟨y, hy⟩ := Option.isSome_iff_exists.1 hzO
            rw [← hz] at hcx
            have HzR : Hid (-9223372036854775808 ≤ z ∧ z ≤ 9223372036854775807) := by
              have hw := HTx.out.o
              obtain ⟨D', ho, hd⟩ := hw
              have hh := (hd.look z (.bool false)).1
              rw [psome, hzO] at hh
              exact key_range ho hh
            have HPd : Hid (Calls _ _ _ wr2 _) := tproposed_ok (HTx.out.keep HKi.out) z HzR.out
            rw [hy, Option.isSome_some, Option.getD_some] at HPd
            have HWy : Hid (Wo O z = some (.int .i64 y.1.c.id)) := by show _ = _; unfold Wo; rw [hy]; rfl
            clear hcl hz hzO hy hiz
            go_wp2_with fail
            refine HPd.out.mono ?_
            rintro e w5 ⟨v5, rfl, k5, nv5, rfl, hni⟩
            have HO5 : Hid ((cmdA y.1.c nv5).toList.toArray.all (·.oneCell') = true) := cmd_one _ (by obtain ⟨_, _, e, _⟩ := hni; rw [e]; rfl)
            have HK5 : Hid (Kp (fun _ => False) wx w5) := HKi.out.trans k5 (fun _ _ e => e)
            have HK35 : Hid (Kp (fun _ => False) w3 w5) := kr.trans k5 (fun _ _ e => e)
            clear hni k5 HPd kr
            go_wp2_with (refine wpList_store_all rfl 35 _ _ rfl 12 w5.heap.size zeroC.toList (cmdA y.1.c nv5).toList rfl rfl (by exact Lv.new w5 _ _) szCmd rfl rfl HO5.out ?_; intro w6 hl6 k6; have kn6 : Kp (fun _ => False) w5 w6 := ((Kp.refl (fun _ => False) w5).alloc _).trans k6 (fun b hb e => by omega); have s0 : w6.cell? ⟨w5.heap.size, 0, none⟩ = some (.int .i64 y.1.c.id) := hl6.cell (j := 0) rfl; have HK36 : Hid (Kp (fun _ => False) w3 w6) := HK35.out.trans kn6 (fun _ _ e => e); have hlk := look_mm_ok uMI zInt (HMx.out.keep (HK5.out.trans kn6 (fun _ _ e => e)) id) z (z_wf HzR.out); rw [HWy.out, Option.getD_some, Option.isSome_some] at hlk; clear hl6 k6 kn6)
            go_roundg (cp - (i + 1))
            case rel => exact ⟨i + 1, by omega, rfl, by go_num, HK36.out⟩
            case measure => omega
          · obtain rfl : i = cp := by omega
            go_wp2_with fail
            refine (HOp.out wr2 HKi.out).mono ?_
            rintro e w5 ⟨v5, ss5, rfl, hsl5, hrow5, k5⟩
            obtain ⟨q5, cq5, rfl, hfl5⟩ := own_fl hrow5
            have HK5 : Hid (Kp (fun _ => False) wx w5) := HKi.out.trans k5 (fun _ _ e => e)
            have hln : ∀ ty, (Builtin.len_ #[53] ty #[.map (some m)]).run Try.prog w5 = .ok (.int .i64 (i : Int)) w5 := len_mm uMI (HMx.out.keep HK5.out id)
            clear hsl5 hrow5 hfl5 k5
            go_wp2_with fail
            refine (HNx.out w5 HK5.out).mono ?_
            rintro e w6 ⟨rfl, hw6⟩
            obtain rfl := hw6.symm
            clear hw6 hln
            go_wp2_with fail
            refine (HOp.out w5 HK5.out).mono ?_
            rintro e w7 ⟨v7, ss7, rfl, hsl7, hrow7, k7⟩
            obtain ⟨q7, cq7, rfl, hfl7⟩ := own_fl hrow7
            have HIs : Hid (Calls _ _ _ w7 _) := issorted_ok _ q7 cq7 i ss7 w7 hfl7 hsl7.len.symm (by omega) hsl7.le
            have HK7 : Hid (Kp (fun _ => False) wx w7) := HK5.out.trans k7 (fun _ _ e => e)
            clear hsl7 hrow7 hfl7 k7
            go_wp2_with fail
            refine HIs.out.mono ?_
            rintro e w8 ⟨rfl, k8⟩
            go_wp2
            go_ret
            exact ⟨rfl, HKx.out.trans (HK7.out.trans k8 (fun _ _ e => e)) (fun _ _ e => e)⟩
end Go.Proofs.Ytjpdbhkggcojaaa
