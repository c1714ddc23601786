/- Texts of this proof, joined: Bv, Bw. -/
import Derived.Test.YtfmndffgmemgpaaGreatDoorMgBF
import Derived.Test.YtfmndffgmemgpaaGreatDoorMgBG
import Derived.Deep.AppendLies
import Derived.Test.YtfmndffgmemgpaaGreatDoorMgBC
import Derived.Test.YtfmndffgmemgpaaGreatDoorMgBE
/- Which dirty sectors a mask keeps. -/
namespace Go.Proofs.YtfmndffgmemgpaaGreatDoor
set_option linter.unusedVariables false
set_option linter.unusedSimpArgs false
open Go.RowKit Go.Deep Go.Maps

theorem infoI8k : (Tryz.prog.info? 3).map (fun i => (i.zero, i.size, i.bytes)) = some (some (.int .i64 0), 1, 8) := by kernel_rfl
theorem bit64 {k r : Nat} (h : r = k % 64) (hk : k ≤ 100000) : (IntKind.u64.wrap (k : Int)).tmod 64 = (r : Int) := by
  have e : IntKind.u64.wrap (k : Int) = (k : Int) := by
    simp [IntKind.wrap, IntKind.bits, IntKind.signed]
    omega
  rw [e, Int.tmod_eq_emod_of_nonneg (by omega)]
  omega
set_option maxRecDepth 100000 in
set_option maxHeartbeats 1600000 in
theorem kept_ok (p : Option Addr) (n c : Nat) (zs : List Int) (mask : Int) (w : World) (hn : n = zs.length) (hr : Rz w p zs) (hl : n ≤ 8192) :
    Calls Tryz.prog 15 #[.slice p n c, .int .u64 mask] w fun e w' => ∃ v ks, e = .returned v ∧ Kp (fun _ => False) w w' ∧ Is w' w.heap.size v ks ∧ (∀ z ∈ ks, z ∈ zs) ∧ ks.length ≤ n := by
  have HRz : Hid (∀ j, j < n → ∃ b o, p = some ⟨b, o, none⟩ ∧ w.cell? ⟨b, o + j, none⟩ = some (.int .i64 (zs.getD j 0)) ∧ zs.getD j 0 ∈ zs) := fun j hj => by
    obtain ⟨b, o, h1, h2⟩ := hr j (by omega)
    refine ⟨b, o, h1, h2, ?_⟩
    rw [List.getD_eq_getElem?_getD, List.getElem?_eq_getElem (by omega)]
    exact List.getElem_mem _
  have HN : Hid (n ≤ 8192) := hl
  obtain ⟨ti, hi0, hz0, hz1', hz2'⟩ := info_parts infoI8k
  clear hn hr hl
  go_enter Tryz.func15, Tryz.ntmps15
  go_wp2
  go_loopg [5, 10] n (fun gk kv x wr => ∃ (k : Nat) (kv' : Value) (ks : List Int), k ≤ n ∧ gk = n - k ∧ x = .int .i64 k ∧ kv' = kv ∧ Hid (Kp (fun _ => False) w wr) ∧ Hid (Is wr w.heap.size kv' ks ∧ (∀ z ∈ ks, z ∈ zs) ∧ ks.length ≤ k))
  case atStart => exact ⟨0, _, [], Nat.zero_le _, rfl, rfl, rfl, Kp.refl _ _, World.ownsRow_nil _ _ _ _, (fun z h => by cases h), Nat.le_refl _⟩
  case round =>
    obtain ⟨k, kv, ks, hk, rfl, rfl, rfl, HK, HIs⟩ := hrel
    by_cases hlt : (k : Int) < (n : Int)
    · obtain ⟨zb, zo, rfl, zc, hzm⟩ := HRz.out k (by omega)
      have zc' := HK.out.cellv zc id
      obtain ⟨zz, hzz⟩ : ∃ zz, zz = zs.getD k 0 := ⟨_, rfl⟩
      rw [← hzz] at zc' hzm
      have HZm : Hid (zz ∈ zs) := hzm
      obtain ⟨r, hr⟩ : ∃ r, r = k % 64 := ⟨_, rfl⟩
      have hr1 := bit64 hr (by have := HN.out; omega)
      have hr2 : (r : Int) < 64 := by omega
      have hwk : wrap64 ((k : Int) + 1) = ((k + 1 : Nat) : Int) := by have := HN.out; unfold wrap64; omega
      clear zc hzm hzz hr
      rcases and01 (mask / 2 ^ r) with hb | hb
      · go_wp2
        go_roundg (n - (k + 1))
        case rel => exact ⟨k + 1, kv, ks, by omega, rfl, by first | rw [hwk] | simp, rfl, HK, HIs.out.1, HIs.out.2.1, by have := HIs.out.2.2; omega⟩
        case measure => omega
      · have HOw : Hid (wr.ownsRow w.heap.size 3 1 kv ks.length (ks.map encZ)) := HIs.out.1
        obtain ⟨kl, hkl⟩ : ∃ kl, kl = ks.length := ⟨_, rfl⟩
        have HKl : Hid (kl = ks.length ∧ kl ≤ 8192) := ⟨hkl, by have := HIs.out.2.2; have := HN.out; omega⟩
        rw [← hkl] at HOw
        clear hkl
        have hwz : w.heap.size ≤ wr.heap.size := HK.out.size
        go_wp2_with (at_builtin; go_must (refine wpList_append_own_at _ rfl _ _ 48 rfl w.heap.size 3 ti (.int .i64 0) 1 8 Tryz.underlying48 hi0 hz0 hz1' hz2' rfl (by decide) _ _ _ rfl (HOw.out.alloc _) ⟨wr.heap.size, 0, none⟩ 1 1 [.int .i64 zz] rfl rfl (cell_one_new _ _ _) (fun x hx => by simp at hx; subst hx; rfl) (by have := HKl.out.2; unfold maxLen; omega) (by have := HKl.out.2; omega) (by simp; omega) ?_); intro v' w3 hown' hk3 hnil3 hblk3)
        have k3 : Kp (fun _ => False) w w3 := (HK.out.trans ((Kp.refl (fun _ => False) _).alloc _) (fun _ _ e => e)).trans (grownBy_kp hk3) (fun b hb e => by have := (ownBlock_lt HOw.out e).1; omega)
        have HF : Hid (Kp (fun _ => False) w w3 ∧ Is w3 w.heap.size v' (ks ++ [zz])) := ⟨k3, by
          have e1 : (ks ++ [zz]).length = kl + 1 := by rw [List.length_append, HKl.out.1]; rfl
          have e2 : (ks ++ [zz]).map encZ = ks.map encZ ++ [.int .i64 zz] := by rw [List.map_append]; rfl
          show w3.ownsRow _ _ _ _ _ _
          rw [e1, e2]
          exact hown'⟩
        clear hown' hk3 hnil3 hblk3 k3
        go_wp2
        go_roundg (n - (k + 1))
        case rel => exact ⟨k + 1, v', ks ++ [zz], by omega, rfl, by first | rw [hwk] | simp, rfl, HF.out.1, HF.out.2, (fun z hz => (List.mem_append.1 hz).elim (HIs.out.2.1 z) (fun h => by rw [List.mem_singleton] at h; rw [h]; exact HZm.out)), by rw [List.length_append]; have := HIs.out.2.2; simp; omega⟩
        case measure => omega
    · have hkn : k = n := by omega
      go_wp2
      go_ret
      exact ⟨_, rfl, HK.out, ks, HIs.out.1, HIs.out.2.1, by have := HIs.out.2.2; omega⟩
end Go.Proofs.YtfmndffgmemgpaaGreatDoor

/- WalSynced. -/
namespace Go.Proofs.YtfmndffgmemgpaaGreatDoor
set_option linter.unusedVariables false
set_option linter.unusedSimpArgs false
open Go.RowKit Go.Deep

theorem infoTxB : (Tryz.prog.info? 34).map (fun i => (i.zero, i.size, i.bytes)) = some (some (.slice none 0 0), 1, 24) := by kernel_rfl
theorem sl_texts (p : Option Addr) (n c r : Nat) (hr : r ≤ c) (w : World) :
    (Instr.slice 22 (.slice p n c) none (some (.int .i64 (r : Int))) none).run Tryz.prog w = .ok (.slice p r c) w := by
  obtain ⟨i, hi, hz⟩ := Option.map_eq_some_iff.1 infoTxB
  simp only [Prod.mk.injEq] at hz
  obtain ⟨hz, hs, hb⟩ := hz
  have h2 : (0 : Int) ≤ r ∧ (r : Int) ≤ (c : Int) := by omega
  simp [Instr.slice, Instr.sliceBounds, Instr.sliceBound, asIntOf, run_underlying Tryz.underlying22, sizeOf, typeInfo, hi, hr]
  cases p <;> simp [Addr.add]
theorem Sx.take {w : World} {p : Option Addr} {ls : List (List Nat)} (h : Sx w p ls) (k : Nat) : Sx w p (ls.take k) := fun r hr => by
  rw [List.length_take] at hr
  obtain ⟨b, o, e, pp, kk, c, h1, h2⟩ := h r (by omega)
  refine ⟨b, o, e, pp, kk, c, h1, ?_⟩
  rw [List.getD_eq_getElem?_getD, List.getElem?_take_of_lt (by omega), ← List.getD_eq_getElem?_getD]
  exact h2
theorem Wn.form {w : World} {base : Nat} {v : Value} {ls : List (List Nat)} (h : Wn w base v ls) : ∃ p c, v = .slice p ls.length c ∧ ls.length ≤ c := by
  obtain ⟨vs, h1, h2, h3⟩ := h
  rcases Joins.ownsRow_forms h1 with ⟨e1, e2⟩ | ⟨g, c, e⟩
  · exact ⟨none, 0, by rw [e1, e2], by omega⟩
  · refine ⟨_, c, e, ?_⟩
    obtain ⟨_, h4⟩ := h1
    rcases h4 with ⟨e2, e3⟩ | ⟨g', cap', cur, hv, hg, hh, hnn, hcap, hsz, htake⟩
    · rw [e2] at e; cases e
    · rw [hv] at e; cases e; omega
theorem tmod3 (op : Int) : wrap64 (op.tmod 3) = op.tmod 3 := by
  have h1 := Int.tmod_lt_of_pos op (show (0 : Int) < 3 by decide)
  have h2 := Int.lt_tmod_of_pos op (show (0 : Int) < 3 by decide)
  unfold wrap64
  omega

set_option maxRecDepth 100000 in
set_option maxHeartbeats 6400000 in
theorem walSynced_walk (z0 : Int) (v0 : Value) (L : Nat) (mask torn nn : Int) (w : World) (hz0 : (Lit.int .i64 z0).wf = true) (h : Dos7 w v0 L) (hmask : (Lit.int .u64 mask).wf = true) (htorn : (Lit.int .i64 torn).wf = true) (hnn : (Lit.int .i64 nn).wf = true) (ht : Turns w) :
    Calls Tryz.prog 4 #[.int .i64 z0, v0, .int .u64 mask, .int .i64 torn, .int .i64 nn] w fun e w' => e = .returned (.bool true) ∧ Kp (fun _ => False) w w' := by
  obtain ⟨g0, gb, go, cap, rfl, hg0, hdo⟩ := h.form
  have hmany := h.many
  have HFr : Hid (Calls _ _ _ w _) := freshL_ok z0 w ht
  obtain ⟨cm, hcm⟩ : ∃ c, c = m40 z0 := ⟨_, rfl⟩
  have hcm9 := m40_lt z0
  rw [← hcm] at HFr hcm9
  obtain ⟨s, hs⟩ : ∃ s, s = 6 + cm := ⟨_, rfl⟩
  rw [← hs] at HFr
  have HSz : Hid (s = 6 + cm ∧ s ≤ 50) := ⟨hs, by omega⟩
  have HWt : Hid ((Lit.int .i64 torn).wf = true) := htorn
  have HT : Hid (Turns w) := ht
  have HTn : Hid ((0 : Nat) < w.heap.size) := World.block_lt_of_cell? _ _ (ht 0 (by decide))
  have HDo : Hid (∀ r, r < L → ∃ (op tn nn : Int) (pb : Option Addr) (cb : Nat) (xs : List Nat) (gt : Option Addr) (lr ct : Nat) (ls : List (List Nat)) (mk : Int), Do7 w gb (go + r * 6) op tn nn pb cb xs (.slice gt lr ct) ls mk) := fun r hr => by
    obtain ⟨op, tn, nn, pb, cb, xs, vr, ls, mk, dd⟩ := hdo r hr
    obtain ⟨gt, _, _, ct, _, _, hvr, _⟩ := dd.tb.form
    rw [hvr] at dd
    exact ⟨op, tn, nn, pb, cb, xs, gt, _, ct, ls, mk, dd⟩
  have HG0 : Hid (0 < L → g0 = some ⟨gb, go, none⟩) := hg0
  have HM : Hid ((L : Int) ≤ 9223372036854775807) := hmany
  clear h hdo hg0 ht hcm hs hcm9 hz0 hmask htorn hnn hmany
  go_enter Tryz.func4, Tryz.ntmps4
  go_wp2_with fail
  refine HFr.out.mono ?_
  rintro e9 w1 ⟨g, gf, bp, d, m, dur, rfl, k1, hb1, l1⟩
  have HK1 : Hid (Kp (fun _ => False) w w1) := k1
  have HBs : Hid (w.heap.size ≤ g ∧ w.heap.size ≤ gf ∧ w.heap.size ≤ bp ∧ w.heap.size ≤ d ∧ w.heap.size ≤ m) := hb1
  have HL1 : Hid (Lg w1 g bp d m gf s 0 1 1 0 1 0 0 [] dur (fun _ => none)) := l1
  clear k1 hb1 l1 HFr
  go_wp2_with fail
  go_loopg [13, 14, 31] L (fun gk wv yv iv wr => ∃ (i y q : Nat) (recs : List (List Nat)) (dur : List Nat) (T : Nat → Option (List Nat)) (v : Value), i ≤ L ∧ gk = L - i ∧ wv = v ∧ yv = .int .i64 (y : Int) ∧ iv = .int .i64 i ∧ Hid (Kp (fun _ => False) w wr) ∧ Hid (Lg wr g bp d m gf s q 1 1 0 1 recs.length y recs dur T) ∧ Hid (Wn wr w.heap.size v recs ∧ ∀ b, v.ownBlock = some b → b < wr.heap.size ∧ b ≠ bp ∧ b ≠ d ∧ b ≠ m ∧ b ≠ g ∧ b ≠ gf))
  case atStart => exact ⟨0, 0, 0, [], dur, _, _, Nat.zero_le _, rfl, rfl, rfl, rfl, HK1, HL1, ⟨Wn.nil _ _, fun b e => by cases e⟩⟩
  case round =>
    obtain ⟨i, y, q, recs, dur, T, v, hi, rfl, hvv, rfl, rfl, HK, HLL, HWn⟩ := hrel
    obtain ⟨pv, cv, hv, hcv⟩ := HWn.out.1.form
    obtain ⟨R9, hR9⟩ : ∃ R9, R9 = recs.length := ⟨_, rfl⟩
    rw [← hR9] at hv hcv
    have hv2 := hvv.symm
    subst hv2
    subst hv
    have HR9 : Hid (R9 = recs.length ∧ R9 ≤ 100 ∧ R9 ≤ cv ∧ y ≤ R9) := ⟨hR9, by have := HLL.out.bounds; have := HSz.out; omega, hcv, by rw [hR9]; exact HLL.out.yl⟩
    clear HK1 HL1 hR9 hcv
    by_cases hlt : i < L
    · have hlt2 : (i : Int) < (L : Int) := by omega
      have hg0 := HG0.out (by omega)
      subst hg0
      obtain ⟨op, tn, n2, pb, cb, xs, gt, lr, ct, ls, mk, dd⟩ := HDo.out i hlt
      have HD : Hid (Do7 w gb (go + i * 6) op tn n2 pb cb xs (.slice gt lr ct) ls mk) := dd
      have hwi : wrap64 ((i : Int) + 1) = ((i + 1 : Nat) : Int) := by have := HM.out; unfold wrap64; omega
      obtain ⟨N, hN⟩ : ∃ N, N = xs.length := ⟨_, rfl⟩
      have d0 := HK.out.cellv dd.c0 id
      have d1 := HK.out.cellv dd.c1 id
      have d2 := HK.out.cellv dd.c2 id
      have d3 := HK.out.cellv dd.c3 id
      have d4 := HK.out.cellv dd.c4 id
      have d5 := HK.out.cellv dd.c5 id
      rw [← hN] at d3
      have HNx : Hid (N = xs.length ∧ N ≤ 140737488355328) := ⟨hN, by rw [hN]; exact dd.nb⟩
      obtain ⟨h7, hh7⟩ : ∃ h7, h7 = wr.heap.size := ⟨_, rfl⟩
      obtain ⟨w2, hw2⟩ : ∃ y, y = wr.alloc (.cells #[.int .i64 op, .int .i64 tn, .int .i64 n2, .slice pb N cb, .slice gt lr ct, .int .u64 mk] 37) := ⟨_, rfl⟩
      have k2 : Kp (fun _ => False) wr w2 := by rw [hw2]; exact (Kp.refl _ _).alloc _
      have HL2 : Hid (Lv w2 h7 [.int .i64 op, .int .i64 tn, .int .i64 n2, .slice pb N cb, .slice gt lr ct, .int .u64 mk]) := by rw [hw2, hh7]; exact Lv.new _ _ _
      have HK2 : Hid (Kp (fun _ => False) w w2 ∧ Kp (fun _ => False) wr w2) := ⟨HK.out.trans k2 (fun _ _ e => e), k2⟩
      have HH7 : Hid (g < h7 ∧ bp < h7 ∧ d < h7 ∧ m < h7 ∧ gf < h7 ∧ w.heap.size ≤ h7 ∧ h7 = wr.heap.size) := by have := HLL.out.blk; have := HK.out.size; exact ⟨by omega, by omega, by omega, by omega, by omega, by omega, hh7⟩
      clear dd k2 hN
      go_upto_region 9 with fail
      rw [← hw2, ← hh7]
      clear hw2 hh7 d0 d1 d2 d3 d4 d5
      have c0 : w2.cell? ⟨h7, 0, none⟩ = some (.int .i64 op) := HL2.out.cell (j := 0) rfl
      have hop := tmod3 op
      obtain ⟨op3, hop3⟩ : ∃ x, x = op.tmod 3 := ⟨_, rfl⟩
      rw [← hop3] at hop
      have hop4 : op.tmod 3 = op3 := hop3.symm
      have HLL2 : Hid (Lg w2 g bp d m gf s q 1 1 0 1 recs.length y recs dur T) := HLL.out.keep0 HK2.out.2
      clear hop3
      by_cases hz : op3 = 0
      · have hz1 : (op3 == (0 : Int)) = true := by rw [beq_iff_eq]; exact hz
        have HS : Hid (Calls _ _ _ w2 _) := lg_sync HLL2.out
        clear hz
        go_wp2_with fail
        refine HS.out.mono ?_
        rintro e9 w3 ⟨rfl, k3, l3⟩
        have HL3 : Hid (Lg w3 g bp d m gf s 0 1 1 0 1 recs.length recs.length recs (durAll dur T (2 + s)) (fun _ => none)) := l3
        have HK3 : Hid (Kp (fun _ => False) w w3) := HK2.out.1.trans k3 (fun b hb e9 => by have e' : b = d ∨ b = m := e9; have := HBs.out; omega)
        have HW3 : Hid (Wn w3 w.heap.size (.slice pv R9 cv) recs ∧ ∀ b, (Value.slice pv R9 cv).ownBlock = some b → b < w3.heap.size ∧ b ≠ bp ∧ b ≠ d ∧ b ≠ m ∧ b ≠ g ∧ b ≠ gf) := ⟨(HWn.out.1.keep HK2.out.2 (fun b e => e.elim)).keep k3 (fun b e9 => by
          have e' : b = d ∨ b = m := e9
          refine ⟨by have := HBs.out; omega, fun e2 => ?_⟩
          have := HWn.out.2 b e2
          omega), fun b e2 => by have h1 := HWn.out.2 b e2; have h2 := HK2.out.2.size; have h3 := k3.size; exact ⟨by omega, h1.2⟩⟩
        clear k3 l3 HS hz1
        go_wp2
        go_roundg (L - (i + 1))
        case rel => exact ⟨i + 1, R9, 0, recs, _, _, .slice pv R9 cv, by omega, rfl, rfl, rfl, by first | rw [hwi] | simp, HK3.out, by rw [HR9.out.1]; exact HL3.out, HW3.out⟩
        case measure => omega
      · have hz1 : (op3 == (0 : Int)) = false := by rw [beq_eq_false_iff_ne]; exact hz
        have HCl : Hid (Calls _ _ _ w2 _) := clone_any pb N cb xs w2 (by rw [HNx.out.1]; exact HD.out.rb.keep0 HK2.out.1) HNx.out.2
        have c3 : w2.cell? ⟨h7, 3, none⟩ = some (.slice pb N cb) := HL2.out.cell (j := 3) rfl
        clear hz
        go_wp2_with fail
        refine HCl.out.mono ?_
        rintro e9 w3 ⟨vc, rfl, k3, ow3⟩
        obtain ⟨pc, cc, hvc, hcc, rbc, hbc⟩ := ow3.rb HD.out.rb.byte
        rw [← HNx.out.1] at hvc hcc rbc
        subst hvc
        have HK3 : Hid (Kp (fun _ => False) w w3 ∧ Kp (fun _ => False) wr w3) := ⟨HK2.out.1.trans k3 (fun _ _ e => e), HK2.out.2.trans k3 (fun _ _ e => e)⟩
        have HL3 : Hid (Lv w3 h7 [.int .i64 op, .int .i64 tn, .int .i64 n2, .slice pb N cb, .slice gt lr ct, .int .u64 mk]) := HL2.out.keep k3 id
        have HA : Hid (Calls Tryz.prog 12 #[.pointer (some ⟨g, 0, none⟩), .slice pc N cc] w3 fun e9 w' => ((e9 = .returned (.tuple #[.int .i64 0, .int .i64 1]) ∨ e9 = .returned (.tuple #[.int .i64 0, .int .i64 4])) ∧ w' = w3) ∨ (e9 = .returned (.tuple #[.int .i64 ((recs.length + 1 : Nat) : Int), .int .i64 0]) ∧ Kp (fun x => x = m ∨ x = g ∨ x = gf) w3 w' ∧ ∃ q' T', Lg w' g bp d m gf s q' 1 1 0 1 (recs.length + 1) y (recs ++ [xs]) dur T')) := by
          refine (lg_append (HLL.out.keep0 HK3.out.2) pc N cc xs rbc hcc (fun z hz h1 => ?_) (fun j hj => HK3.out.1.cellv (HT.out j hj) id)).mono ?_
          · have h2 := (hbc z hz).1
            have h3 := HLL.out.blk
            have h4 := HK2.out.2.size
            exact ⟨by omega, by omega, by omega⟩
          · rintro e9 w' (⟨_, rfl, rfl⟩ | ⟨_, _, rfl, rfl⟩ | ⟨_, _, rfl, k, q', T', l', _, _⟩)
            · exact Or.inl ⟨Or.inl rfl, rfl⟩
            · exact Or.inl ⟨Or.inr rfl, rfl⟩
            · exact Or.inr ⟨rfl, k, q', T', l'⟩
        clear k3 ow3 rbc hcc hbc HCl c3 c0 hz1 hop hop4
        go_wp2_with fail
        refine HA.out.mono ?_
        rintro e9 w4 (⟨rfl | rfl, hw9⟩ | ⟨rfl, k4, q4, T4, l4⟩)
        · have hw8 := hw9.symm
          subst hw8
          clear hw9 HA
          have HW3 : Hid (Wn w3 w.heap.size (.slice pv R9 cv) recs ∧ ∀ b, (Value.slice pv R9 cv).ownBlock = some b → b < w3.heap.size ∧ b ≠ bp ∧ b ≠ d ∧ b ≠ m ∧ b ≠ g ∧ b ≠ gf) := ⟨HWn.out.1.keep HK3.out.2 (fun b e => e.elim), fun b e2 => by have h1 := HWn.out.2 b e2; have h2 := HK3.out.2.size; exact ⟨by omega, h1.2⟩⟩
          go_wp2
          go_roundg (L - (i + 1))
          case rel => exact ⟨i + 1, y, q, recs, dur, T, .slice pv R9 cv, by omega, rfl, rfl, rfl, by first | rw [hwi] | simp, HK3.out.1, HLL.out.keep0 HK3.out.2, HW3.out⟩
          case measure => omega
        · have hw8 := hw9.symm
          subst hw8
          clear hw9 HA
          have HW3 : Hid (Wn w3 w.heap.size (.slice pv R9 cv) recs ∧ ∀ b, (Value.slice pv R9 cv).ownBlock = some b → b < w3.heap.size ∧ b ≠ bp ∧ b ≠ d ∧ b ≠ m ∧ b ≠ g ∧ b ≠ gf) := ⟨HWn.out.1.keep HK3.out.2 (fun b e => e.elim), fun b e2 => by have h1 := HWn.out.2 b e2; have h2 := HK3.out.2.size; exact ⟨by omega, h1.2⟩⟩
          go_wp2
          go_roundg (L - (i + 1))
          case rel => exact ⟨i + 1, y, q, recs, dur, T, .slice pv R9 cv, by omega, rfl, rfl, rfl, by first | rw [hwi] | simp, HK3.out.1, HLL.out.keep0 HK3.out.2, HW3.out⟩
          case measure => omega
        · have hlen : recs.length + 1 = (recs ++ [xs]).length := by simp
          rw [hlen] at l4
          have HL5 : Hid (Lg w4 g bp d m gf s q4 1 1 0 1 (recs ++ [xs]).length y (recs ++ [xs]) dur T4) := l4
          have HK5 : Hid (Kp (fun x => x = m ∨ x = g ∨ x = gf) w3 w4) := k4
          have hW5 : Wn w4 w.heap.size (.slice pv R9 cv) recs := (HWn.out.1.keep HK3.out.2 (fun b e => e.elim)).keep HK5.out (fun b e9 => by
            have e' : b = m ∨ b = g ∨ b = gf := e9
            refine ⟨by have := HBs.out; omega, fun e2 => ?_⟩
            have := HWn.out.2 b e2
            omega)
          have h75 : ¬ (h7 = m ∨ h7 = g ∨ h7 = gf) := by have := HH7.out; omega
          have HL75 : Hid (Lv w4 h7 [.int .i64 op, .int .i64 tn, .int .i64 n2, .slice pb N cb, .slice gt lr ct, .int .u64 mk]) := HL3.out.keep HK5.out h75
          have c3 : w4.cell? ⟨h7, 3, none⟩ = some (.slice pb N cb) := HL75.out.cell (j := 3) rfl
          obtain ⟨vs, hvs1, hvs2, hvs3⟩ := hW5
          obtain ⟨w6, hw6⟩ : ∃ y, y = w4.alloc (.cells #[.slice pb N cb] 34) := ⟨_, rfl⟩
          have k6 : Kp (fun _ => False) w4 w6 := by rw [hw6]; exact (Kp.refl _ _).alloc _
          have HO6 : Hid (w6.ownsRow w.heap.size 34 1 (.slice pv R9 cv) R9 vs) := by have := ownsRow_keep hvs1 k6 (fun _ _ e => e); rw [← HR9.out.1] at this; exact this
          have HC6 : Hid (w6.cell? ⟨w4.heap.size, 0, none⟩ = some (.slice pb N cb)) := by
            have l3 : Lv w6 w4.heap.size [.slice pb N cb] := by rw [hw6]; exact Lv.new _ _ _
            exact l3.cell (j := 0) rfl
          have HB6 : Hid (w.heap.size ≤ w6.heap.size) := Nat.le_trans (Nat.le_trans HK3.out.1.size HK5.out.size) k6.size
          have HVs : Hid (vs.length = recs.length ∧ ∀ (i : Nat) (x : List Nat) (u : Value), recs[i]? = some x → vs[i]? = some u → ∃ p c, u = Value.slice p x.length c ∧ Rb w4 p x.length x ∧ ∀ a, p = some a → 0 < x.length → a.block < w.heap.size) := ⟨hvs2, hvs3⟩
          have HK6 : Hid (Kp (fun _ => False) w4 w6) := k6
          clear k4 l4 hvs1 hvs2 hvs3 k6 h75 hlen HA
          go_upto_region 18 with (refine wpList_append_text (w4.alloc (.cells #[.slice pb N cb] 34)) rfl _ _ rfl w.heap.size (.slice pv R9 cv) R9 vs (.slice pb N cb) w4.heap.size rfl (by rw [← hw6]; exact HO6.out) rfl rfl (by rw [← hw6]; exact HC6.out) (by have := HR9.out; omega) (by rw [← hw6]; exact HB6.out) ?_; intro v7 w7 o7 k7 hv7; rw [← hw6] at k7 hv7)
          have HV7 : Hid (∀ b, v7.ownBlock = some b → b < w7.heap.size ∧ b ≠ bp ∧ b ≠ d ∧ b ≠ m ∧ b ≠ g ∧ b ≠ gf) := fun b e => by
            have h1 := (ownBlock_lt o7 e).2
            rcases hv7 with h2 | h2
            · have h3 := HWn.out.2 b (h2.symm.trans e)
              exact ⟨h1, h3.2⟩
            · rw [h2] at e
              injection e with e
              have h3 := HL5.out.blk
              have h4 := HK6.out.size
              exact ⟨h1, by omega, by omega, by omega, by omega, by omega⟩
          have HW7 : Hid (Wn w7 w.heap.size v7 (recs ++ [xs])) := by
            rw [HR9.out.1] at o7
            have hN := HNx.out.1
            refine Wn.app (p := pb) (c := cb) HVs.out.1 (fun i x u hx hu => ?_) ?_ (fun a ha h0 => HD.out.hb a ha h0) (by rw [← hN]; exact o7) k7 (fun b e => (ownBlock_lt HO6.out e).1)
            · obtain ⟨p, c, e, hr, hl⟩ := HVs.out.2 i x u hx hu
              exact ⟨p, c, e, hr.keep0 HK6.out, hl⟩
            · exact rb_keepL (HD.out.rb.keep0 HK3.out.1) rfl (HK5.out.trans HK6.out (fun _ _ e => e.elim)) (fun a ha h0 => HD.out.hb a ha h0) (fun b e9 => by have e' : b = m ∨ b = g ∨ b = gf := e9; have := HBs.out; omega)
          have HKW : Hid (Kp (fun _ => False) w w7) := ((HK3.out.1.trans HK5.out (fun b hb e9 => by have e' : b = m ∨ b = g ∨ b = gf := e9; have := HBs.out; omega)).trans HK6.out (fun _ _ e => e)).trans k7 (fun b hb e => by have := (ownBlock_lt HO6.out e).1; omega)
          have HL7 : Hid (Lg w7 g bp d m gf s q4 1 1 0 1 (recs ++ [xs]).length y (recs ++ [xs]) dur T4) := (HL5.out.keep0 HK6.out).keep k7 (fun e => (HWn.out.2 _ e).2.2.2.2.1 rfl) (fun e => (HWn.out.2 _ e).2.1 rfl) (fun e => (HWn.out.2 _ e).2.2.1 rfl) (fun e => (HWn.out.2 _ e).2.2.2.1 rfl) (fun e => (HWn.out.2 _ e).2.2.2.2.2 rfl)
          clear o7 k7 hv7 hw6 c3
          go_wp2
          go_roundg (L - (i + 1))
          case rel => exact ⟨i + 1, y, q4, recs ++ [xs], dur, T4, v7, by omega, rfl, rfl, rfl, by first | rw [hwi] | simp, HKW.out, HL7.out, ⟨HW7.out, HV7.out⟩⟩
          case measure => omega
    · have hiL : i = L := by omega
      subst hiL
      have hlt2 : ¬ ((i : Int) < (i : Int)) := by omega
      have HDi : Hid (Calls _ _ _ wr _) := dirty_ok HLL.out.pt
      go_wp2_with fail
      refine HDi.out.mono ?_
      rintro e9 wa ⟨v2, rfl, ka, is2⟩
      obtain ⟨p2, cc2, rfl, rz2, hp2⟩ := is2.rz
      obtain ⟨zs, hzs⟩ : ∃ zs, zs = dks T (2 + s) := ⟨_, rfl⟩
      rw [← hzs] at rz2 is2
      obtain ⟨Z, hZ⟩ : ∃ Z, Z = zs.length := ⟨_, rfl⟩
      have HZ : Hid (zs = dks T (2 + s) ∧ Z = zs.length ∧ Z ≤ 100) := ⟨hzs, hZ, by rw [hZ, hzs]; have := dks_len T (2 + s); have := HSz.out; omega⟩
      rw [← hzs, ← hZ]
      have HKe : Hid (Calls _ _ _ wa _) := kept_ok p2 Z cc2 zs mask wa hZ rz2 (by have := HZ.out; omega)
      have HKa : Hid (Kp (fun _ => False) wr wa) := ka
      clear ka is2 rz2 hp2 hzs hZ HDi
      go_wp2_with fail
      refine HKe.out.mono ?_
      rintro e9 wb ⟨v3, ks, rfl, kb, is3, hin, hkl⟩
      obtain ⟨p3, cc3, rfl, rz3, hp3⟩ := is3.rz
      have HLb : Lg wb g bp d m gf s q 1 1 0 1 recs.length y recs dur T := (HLL.out.keep0 HKa.out).keep0 kb
      have HCr : Hid (Calls _ _ _ wb _) := lg_crash HLb p3 cc3 ks torn nn (fun w' k' => rz3.keep k' (fun a ha e => by have h1 := (hp3 a ha).1; have h2 := (HLL.out.keep0 HKa.out).blk; have e' : a.block = d := e; omega)) (fun z hz => by
        have := hin z hz
        rw [HZ.out.1] at this
        obtain ⟨j, hj, _, rfl⟩ := mem_dks.1 this
        exact wf_nat j (by have := HSz.out; omega)) HWt.out (by have := HZ.out; omega)
      have HKb : Hid (Kp (fun _ => False) wr wb) := HKa.out.trans kb (fun _ _ e => e)
      obtain ⟨Z3, hZ3⟩ : ∃ Z, Z = ks.length := ⟨_, rfl⟩
      rw [← hZ3] at HCr
      rw [← hZ3]
      clear kb is3 hin hkl rz3 hp3 HLb HKe hZ3
      go_wp2_with fail
      refine HCr.out.mono ?_
      rintro e9 wc ⟨rfl, kc, lc, _⟩
      have HKc : Hid (Kp (fun x => x = d ∨ x = m) wr wc) := (HKb.out.mono (fun _ _ e => e.elim)).trans kc (fun _ _ e => e)
      have HKcw : Hid (Kp (fun _ => False) w wc) := HK.out.trans HKc.out (fun b hb e9 => by have e' : b = d ∨ b = m := e9; have := HBs.out; omega)
      obtain ⟨k9, hk1, hk2, hsame, hop⟩ := lc_open lc (by decide) (by decide) (fun j hj => HKcw.out.cellv (HT.out j hj) id)
      have HOp : Hid (Calls _ _ _ wc _) := hop
      have HKn : Hid (y ≤ k9 ∧ k9 ≤ R9) := ⟨hk1, by rw [HR9.out.1]; exact hk2⟩
      clear kc lc hk1 hk2 hsame hop HCr
      go_wp2_with fail
      refine HOp.out.mono ?_
      rintro e9 we ⟨g', gf', v', dur', rfl, ke, hg', hgf', rwe, lge⟩
      have hlk : (recs.take k9).length = k9 := by rw [List.length_take]; have := HKn.out; have := HR9.out; omega
      obtain ⟨pv', cv', hv', sx'⟩ := rwe.sx (fun ys hy => (lge.lg.fine ys hy).2.2)
      rw [hlk] at hv'
      subst hv'
      have hWe : Wn we w.heap.size (.slice pv R9 cv) recs := (HWn.out.1.keep HKc.out (fun b e9 => by
        have e' : b = d ∨ b = m := e9
        refine ⟨by have := HBs.out; omega, fun e2 => ?_⟩
        have := HWn.out.2 b e2
        omega)).keep ke (fun b e9 => by
        have e' : b = d ∨ b = m := e9
        refine ⟨by have := HBs.out; omega, fun e2 => ?_⟩
        have := HWn.out.2 b e2
        omega)
      obtain ⟨pq, cq, hvq, sxq⟩ := hWe.sx
      have hpq : pq = pv := by cases hvq; rfl
      subst hpq
      have hsl := fun w => sl_texts pq R9 cv k9 (by have := HKn.out; have := HR9.out; omega) w
      have HSt : Hid (Calls _ _ _ we _) := sameTexts2_ok pv' pq k9 cv' cv (recs.take k9) hlk.symm we sx' (sxq.take k9) (by have := HKn.out; have := HR9.out; omega)
      have HLf : Hid (Calls _ _ _ we _) := life_ok lge.wl
      have HLa : Hid (Calls Tryz.prog 20 #[.pointer (some ⟨g', 0, none⟩)] we fun e9 w' => e9 = .returned (.int .i64 (k9 : Int)) ∧ w' = we) := by
        have h9 := last_ok lge.wl
        rw [hlk, Nat.sub_self, Nat.zero_add] at h9
        exact h9
      have HKe : Hid (Kp (fun _ => False) w we) := HKcw.out.trans ke (fun b hb e9 => by have e' : b = d ∨ b = m := e9; have := HBs.out; omega)
      have hge : (k9 : Int) ≥ (y : Int) := by have := HKn.out; omega
      have hle : (k9 : Int) ≤ (R9 : Int) := by have := HKn.out; omega
      clear ke hg' hgf' rwe lge hWe sx' sxq hvq HOp hlk
      go_wp2_with fail
      refine HLf.out.mono ?_
      rintro e9 w9 ⟨rfl, hw9⟩
      have hw8 := hw9.symm
      subst hw8
      clear hw9 HLf
      go_wp2_with fail
      refine HSt.out.mono ?_
      rintro e9 w9 ⟨rfl, hw9⟩
      have hw8 := hw9.symm
      subst hw8
      clear hw9 HSt
      go_wp2_with fail
      refine HLa.out.mono ?_
      rintro e9 w9 ⟨rfl, hw9⟩
      have hw8 := hw9.symm
      subst hw8
      clear hw9 HLa
      go_wp2
      go_ret
      exact ⟨rfl, HKe.out⟩
end Go.Proofs.YtfmndffgmemgpaaGreatDoor
