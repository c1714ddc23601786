/- Texts of this proof, joined: Bp, Lt. -/
import Derived.Test.YtfmndffgmemgpaaDoorMgBC
import Derived.Test.YtfmndffgmemgpaaDoorMgBE
import Derived.Test.YtfmndffgmemgpaaDoorMgAB
import Derived.Test.YtfmndffgmemgpaaDoorRows
import Derived.ProofKit
import Derived.LaidMore
import Derived.OpenShut
import Derived.Stop.Joined
/- WalAnew (laid by scripts/mkbp.py). -/
namespace Go.Proofs.YtfmndffgmemgpaaDoor
set_option linter.unusedVariables false
set_option linter.unusedSimpArgs false
open Go.RowKit Go.Deep

theorem wrap_u8i {i : Nat} (h : i ≤ 12) : IntKind.u8.wrap (i : Int) = (i : Int) := by
  simp [IntKind.wrap, IntKind.bits, IntKind.signed]
  omega
theorem wrap_p1 {i : Nat} (h : i ≤ 13) : wrap64 ((i : Int) + 1) = ((i + 1 : Nat) : Int) := by unfold wrap64; omega
theorem wrap_p2 {i : Nat} (h : i ≤ 12) : wrap64 ((i : Int) + 2) = ((i + 1 + 1 : Nat) : Int) := by unfold wrap64; omega
theorem torn_60 (n : Int) : torn64 (n.tmod 60) ≤ 63 := by
  have := Int.tmod_lt_of_pos n (show (0 : Int) < 60 by decide)
  unfold torn64
  omega
theorem wrap_60 (n : Int) : wrap64 (n.tmod 60) = n.tmod 60 := by
  have h1 := Int.tmod_lt_of_pos n (show (0 : Int) < 60 by decide)
  have h2 : -60 < n.tmod 60 := by
    have h3 := Int.lt_tmod_of_pos n (show (0 : Int) < 60 by decide)
    omega
  unfold wrap64
  omega
theorem m40_200 : m40 200 = 0 := by decide

set_option maxRecDepth 100000 in
set_option maxHeartbeats 6400000 in
theorem walAnew_walk (v0 : Value) (L : Nat) (w : World) (h : Dos7 w v0 L) (ht : Turns w) :
    Calls Tryd.prog 3 #[v0] w fun e w' => e = .returned (.bool true) ∧ Kp (fun _ => False) w w' := by
  obtain ⟨g0, gb, go, cap, rfl, hg0, hdo⟩ := h.form
  have hmany := h.many
  have HFr : Hid (Calls _ _ _ w _) := freshL_ok 200 w ht
  rw [m40_200] at HFr
  have HT : Hid (Turns w) := ht
  have HTn : Hid ((0 : Nat) < w.heap.size) := World.block_lt_of_cell? _ _ (ht 0 (by decide))
  have HDo : Hid (∀ r, r < L → ∃ (op tn nn : Int) (pb : Option Addr) (cb : Nat) (xs : List Nat) (gt : Option Addr) (lr ct : Nat) (ls : List (List Nat)) (mk : Int), Do7 w gb (go + r * 6) op tn nn pb cb xs (.slice gt lr ct) ls mk) := fun r hr => by
    obtain ⟨op, tn, nn, pb, cb, xs, vr, ls, mk, dd⟩ := hdo r hr
    obtain ⟨gt, _, _, ct, _, _, hvr, _⟩ := dd.tb.form
    rw [hvr] at dd
    exact ⟨op, tn, nn, pb, cb, xs, gt, _, ct, ls, mk, dd⟩
  have HG0 : Hid (0 < L → g0 = some ⟨gb, go, none⟩) := hg0
  clear h hdo hg0 ht
  go_enter Tryd.func3, Tryd.ntmps3
  go_wp2_with fail
  refine HFr.out.mono ?_
  rintro e9 w1 ⟨g, gf, bp, d, m, dur, rfl, k1, hb1, l1⟩
  have HK1 : Hid (Kp (fun _ => False) w w1) := k1
  have HB1 : Hid (w.heap.size ≤ g ∧ w.heap.size ≤ gf ∧ w.heap.size ≤ bp ∧ w.heap.size ≤ d ∧ w.heap.size ≤ m) := hb1
  have HL1 : Hid (Lg w1 g bp d m gf 6 0 1 1 0 1 0 0 [] dur (fun _ => none)) := l1
  clear k1 hb1 l1 HFr
  go_wp2_with fail
  go_loopg [3, 5, 21] L (fun gk sv wv iv wr => ∃ (i g gf : Nat) (recs : List (List Nat)) (dur : List Nat) (v : Value), i ≤ L ∧ i ≤ 13 ∧ gk = L - i ∧ sv = .pointer (some ⟨g, 0, none⟩) ∧ wv = v ∧ iv = .int .i64 i ∧ Hid (Kp (fun _ => False) w wr) ∧ Hid (Lg wr g bp d m gf 6 0 (i + 1) (i + 1) 0 1 recs.length recs.length recs dur (fun _ => none)) ∧ Hid (Wn wr w.heap.size v recs ∧ ∀ b, v.ownBlock = some b → b < wr.heap.size ∧ b ≠ bp ∧ b ≠ d ∧ b ≠ m ∧ b ≠ g ∧ b ≠ gf) ∧ Hid (w.heap.size ≤ g ∧ w.heap.size ≤ gf ∧ w.heap.size ≤ bp ∧ w.heap.size ≤ d ∧ w.heap.size ≤ m))
  case atStart => exact ⟨0, g, gf, [], dur, _, Nat.zero_le _, by decide, rfl, rfl, rfl, rfl, HK1, HL1, ⟨Wn.nil _ _, fun b e => by cases e⟩, HB1⟩
  case round =>
    obtain ⟨i, g, gf, recs, dur, v, hi, hi13, rfl, rfl, hvv, rfl, HK, HLL, HWn, HBs⟩ := hrel
    have hv2 := hvv.symm
    subst hv2
    clear HK1 HB1 HL1
    by_cases hlt : i < L
    · have hlt2 : (i : Int) < (L : Int) := by omega
      have hg0 := HG0.out (by omega)
      subst hg0
      obtain ⟨op, tn, nn, pb, cb, xs, gt, lr, ct, ls, mk, dd⟩ := HDo.out i hlt
      have HD : Hid (Do7 w gb (go + i * 6) op tn nn pb cb xs (.slice gt lr ct) ls mk) := dd
      have hwi : wrap64 ((i : Int) + 1) = ((i + 1 : Nat) : Int) := wrap_p1 hi13
      obtain ⟨N, hN⟩ : ∃ N, N = xs.length := ⟨_, rfl⟩
      have d0 := HK.out.cellv dd.c0 id
      have d1 := HK.out.cellv dd.c1 id
      have d2 := HK.out.cellv dd.c2 id
      have d3 := HK.out.cellv dd.c3 id
      have d4 := HK.out.cellv dd.c4 id
      have d5 := HK.out.cellv dd.c5 id
      rw [← hN] at d3
      have HNx : Hid (N = xs.length ∧ N ≤ 140737488355328) := ⟨hN, by rw [hN]; exact dd.nb⟩
      obtain ⟨h7, hh7⟩ : ∃ h7, h7 = wr.heap.size := ⟨_, rfl⟩
      obtain ⟨w2, hw2⟩ : ∃ y, y = wr.alloc (.cells #[.int .i64 op, .int .i64 tn, .int .i64 nn, .slice pb N cb, .slice gt lr ct, .int .u64 mk] 31) := ⟨_, rfl⟩
      have k2 : Kp (fun _ => False) wr w2 := by rw [hw2]; exact (Kp.refl _ _).alloc _
      have HL2 : Hid (Lv w2 h7 [.int .i64 op, .int .i64 tn, .int .i64 nn, .slice pb N cb, .slice gt lr ct, .int .u64 mk]) := by rw [hw2, hh7]; exact Lv.new _ _ _
      have HK2 : Hid (Kp (fun _ => False) w w2 ∧ Kp (fun _ => False) wr w2) := ⟨HK.out.trans k2 (fun _ _ e => e), k2⟩
      have HH7 : Hid (g < h7 ∧ bp < h7 ∧ d < h7 ∧ m < h7 ∧ gf < h7 ∧ w.heap.size ≤ h7 ∧ h7 = wr.heap.size) := by have := HLL.out.blk; have := HK.out.size; exact ⟨by omega, by omega, by omega, by omega, by omega, by omega, hh7⟩
      clear dd k2 hN
      go_upto_region 8 with fail
      rw [← hw2, ← hh7]
      clear hw2 hh7 d0 d1 d2 d3 d4 d5
      by_cases h13 : i > 12
      · have hgt : (i : Int) > 12 := by omega
        have HLf : Hid (Calls _ _ _ w2 _) := life_ok (HLL.out.keep0 HK2.out.2).wl
        have hpos : ((i + 1 : Nat) : Int) > 0 := by omega
        go_wp2_with fail
        refine HLf.out.mono ?_
        rintro e9 w9 ⟨rfl, hw9⟩
        have hw8 := hw9.symm
        subst hw8
        clear hw9 HLf
        go_wp2
        go_ret
        exact ⟨rfl, HK2.out.1⟩
      · have HB13 : Hid (i ≤ 12) := by show _ ≤ _; omega
        have hgt : ¬ ((i : Int) > 12) := by omega
        have HCl : Hid (Calls _ _ _ w2 _) := clone_any pb N cb xs w2 (by rw [HNx.out.1]; exact HD.out.rb.keep0 HK2.out.1) HNx.out.2
        have c3 : w2.cell? ⟨h7, 3, none⟩ = some (.slice pb N cb) := HL2.out.cell (j := 3) rfl
        clear h13
        go_wp2_with fail
        refine HCl.out.mono ?_
        rintro e9 w3 ⟨vc, rfl, k3, ow3⟩
        obtain ⟨pc, cc, hvc, hcc, rbc, hbc⟩ := ow3.rb HD.out.rb.byte
        rw [← HNx.out.1] at hvc hcc rbc
        subst hvc
        have HK3 : Hid (Kp (fun _ => False) w w3 ∧ Kp (fun _ => False) wr w3) := ⟨HK2.out.1.trans k3 (fun _ _ e => e), HK2.out.2.trans k3 (fun _ _ e => e)⟩
        have HL3 : Hid (Lv w3 h7 [.int .i64 op, .int .i64 tn, .int .i64 nn, .slice pb N cb, .slice gt lr ct, .int .u64 mk]) := HL2.out.keep k3 id
        have HA : Hid (Calls Tryd.prog 6 #[.pointer (some ⟨g, 0, none⟩), .slice pc N cc] w3 fun e9 w' => (∃ z : Int, z ≠ 0 ∧ e9 = .returned (.tuple #[.int .i64 0, .int .i64 z]) ∧ w' = w3) ∨ (e9 = .returned (.tuple #[.int .i64 ((recs.length + 1 : Nat) : Int), .int .i64 0]) ∧ Kp (fun x => x = m ∨ x = g ∨ x = gf) w3 w' ∧ ∃ q' T', Lg w' g bp d m gf 6 q' (i + 1) (i + 1) 0 1 (recs.length + 1) recs.length (recs ++ [xs]) dur T')) := by
          refine (lg_append (HLL.out.keep0 HK3.out.2) pc N cc xs rbc hcc (fun z hz h1 => ?_) (fun j hj => HK3.out.1.cellv (HT.out j hj) id)).mono ?_
          · have h2 := (hbc z hz).1
            have h3 := HLL.out.blk
            have h4 := HK2.out.2.size
            exact ⟨by omega, by omega, by omega⟩
          · rintro e9 w' (⟨_, rfl, rfl⟩ | ⟨_, _, rfl, rfl⟩ | ⟨_, _, rfl, k, q', T', l', _, _⟩)
            · exact Or.inl ⟨1, by decide, rfl, rfl⟩
            · exact Or.inl ⟨4, by decide, rfl, rfl⟩
            · exact Or.inr ⟨rfl, k, q', T', l'⟩
        clear k3 ow3 rbc hcc hbc HCl c3
        go_wp2_with fail
        refine HA.out.mono ?_
        rintro e9 w4 (⟨z, hz, rfl, hw9⟩ | ⟨rfl, k4, q4, T4, l4⟩)
        · have hw8 := hw9.symm
          subst hw8
          clear hw9 HA
          have hz0 : (z == (0 : Int)) = false := by rw [beq_eq_false_iff_ne]; exact hz
          clear hz
          have HWn : Hid (Wn w3 w.heap.size v recs ∧ ∀ b, v.ownBlock = some b → b < w3.heap.size ∧ b ≠ bp ∧ b ≠ d ∧ b ≠ m ∧ b ≠ g ∧ b ≠ gf) := ⟨HWn.out.1.keep HK3.out.2 (fun b e => e.elim), fun b e => by have h1 := HWn.out.2 b e; have h2 := HK3.out.2.size; exact ⟨by omega, h1.2⟩⟩
          have HKW : Hid (Kp (fun _ => False) w w3) := HK3.out.1
          have HLL : Hid (Lg w3 g bp d m gf 6 0 (i + 1) (i + 1) 0 1 recs.length recs.length recs dur (fun _ => none)) := HLL.out.keep0 HK3.out.2
          have HL7 : Hid (Lv w3 h7 [.int .i64 op, .int .i64 tn, .int .i64 nn, .slice pb N cb, .slice gt lr ct, .int .u64 mk]) := HL3.out
          -- the record that is lost
          have HA2 : Hid (∀ u g9, Kp (fun _ => False) w3 u → w.heap.size ≤ g9 → u.cell? ⟨g9, 0, none⟩ = some (.int .u8 9) → u.cell? ⟨g9, 1, none⟩ = some (.int .u8 (i : Int)) → g9 ≠ m → g9 ≠ g → g9 ≠ gf → Calls Tryd.prog 6 #[.pointer (some ⟨g, 0, none⟩), .slice (some ⟨g9, 0, none⟩) 2 2] u fun e9 w' => ∃ z1 z2 : Int, e9 = .returned (.tuple #[.int .i64 z1, .int .i64 z2]) ∧ Kp (fun x => x = m ∨ x = g ∨ x = gf) u w' ∧ ∃ q' lt' l T', Lg w' g bp d m gf 6 q' (i + 1) (i + 1) 0 1 lt' recs.length (recs ++ l) dur T' ∧ ∀ t, totW recs ≤ t → t < totW (recs ++ l) → ∃ xs, T' (2 + (0 + t) % 6) = some xs) := fun u g9 ku hg9 hc0 hc1 n1 n2 n3 => by
            refine lg_append_any (HLL.out.keep0 ku) (some ⟨g9, 0, none⟩) 2 2 [9, i] ⟨rfl, fun x hx => by have := HB13.out; simp at hx; omega, fun j hj => ?_⟩ (Nat.le_refl _) (fun z hz _ => by cases hz; exact ⟨n1, n2, n3⟩) (fun j hj => (HKW.out.trans ku (fun _ _ e => e)).cellv (HT.out j hj) id)
            refine ⟨g9, 0, rfl, ?_⟩
            match j, hj with
            | 0, _ => exact hc0
            | 1, _ => exact hc1
          obtain ⟨g9, hg9⟩ : ∃ g9, g9 = w3.heap.size := ⟨_, rfl⟩
          obtain ⟨wb, hwb⟩ : ∃ y, y = w3.alloc (.cells #[.int .u8 9, .int .u8 (i : Int)] 5) := ⟨_, rfl⟩
          have HKb : Hid (Kp (fun _ => False) w3 wb) := by rw [hwb]; exact (Kp.refl _ _).alloc _
          have HCb : Hid (Lv wb g9 [.int .u8 9, .int .u8 (i : Int)]) := by rw [hwb, hg9]; exact Lv.new _ _ _
          have HG9 : Hid (w.heap.size ≤ g9 ∧ g9 ≠ m ∧ g9 ≠ g ∧ g9 ≠ gf) := by
            have h1 := HLL.out.blk
            have h2 := HKW.out.size
            exact ⟨by omega, by omega, by omega, by omega⟩
          have hu8 : IntKind.u8.wrap (i : Int) = (i : Int) := wrap_u8i HB13.out
          have hc7 : w3.cell? ⟨h7, 1, none⟩ = some (.int .i64 tn) := HL7.out.cell (j := 1) rfl
          have hc8 : w3.cell? ⟨h7, 2, none⟩ = some (.int .i64 nn) := HL7.out.cell (j := 2) rfl
          go_wp2_with fail
          rw [← hwb, ← hg9]
          clear hwb hg9 hu8
          refine (HA2.out wb g9 HKb.out HG9.out.1 (HCb.out.cell (j := 0) rfl) (HCb.out.cell (j := 1) rfl) HG9.out.2.1 HG9.out.2.2.1 HG9.out.2.2.2).mono ?_
          rintro e9 wc ⟨z1, z2, rfl, kc, q8, lt8, l8, T8, lc8, ht8⟩
          have HK8 : Hid (Kp (fun x => x = m ∨ x = g ∨ x = gf) w3 wc) := (HKb.out.mono (fun _ _ e => e.elim)).trans kc (fun _ _ e => e)
          have HL8 : Hid (Lg wc g bp d m gf 6 q8 (i + 1) (i + 1) 0 1 lt8 recs.length (recs ++ l8) dur T8) := lc8
          have HT8 : Hid (∀ t, totW recs ≤ t → t < totW (recs ++ l8) → ∃ xs, T8 (2 + (0 + t) % 6) = some xs) := ht8
          have h78 : ¬ (h7 = m ∨ h7 = g ∨ h7 = gf) := by have := HH7.out; omega
          have hc7 : wc.cell? ⟨h7, 1, none⟩ = some (.int .i64 tn) := HK8.out.cellv (HL7.out.cell (j := 1) rfl) h78
          have hc8 : wc.cell? ⟨h7, 2, none⟩ = some (.int .i64 nn) := HK8.out.cellv (HL7.out.cell (j := 2) rfl) h78
          clear kc lc8 ht8 h78 HA2
          obtain ⟨n6, hn6⟩ : ∃ n6, n6 = nn.tmod 60 := ⟨_, rfl⟩
          have HN6 : Hid (torn64 n6 ≤ 63) := by rw [hn6]; exact torn_60 nn
          have hn7 : nn.tmod 60 = n6 := hn6.symm
          have hn8 : wrap64 (nn.tmod 60) = n6 := by rw [hn6]; exact wrap_60 nn
          have hn9 : IntKind.i64.wrap (nn.tmod 60) = n6 := wrapI hn8
          have HCr : Hid (Calls _ _ _ wc _) := lg_crash HL8.out none 0 [] tn n6 (fun w' _ j hj => absurd hj (Nat.not_lt_zero _)) (fun z hz => by cases hz) HD.out.wt (by decide)
          clear hn6
          go_wp2_with fail
          refine HCr.out.mono ?_
          rintro e9 wd ⟨rfl, kd9, lc9, bad9⟩
          have HKd : Hid (Kp (fun x => x = d ∨ x = m ∨ x = g ∨ x = gf) w3 wd) := (HK8.out.mono (fun _ _ e => Or.inr e)).trans kd9 (fun _ _ e => e.elim Or.inl (fun e => Or.inr (Or.inl e)))
          have HKdw : Hid (Kp (fun _ => False) w wd) := HKW.out.trans HKd.out (fun b hb e9 => by have e' : b = d ∨ b = m ∨ b = g ∨ b = gf := e9; have := HBs.out; omega)
          obtain ⟨k9, hk1, hk2, hsame, hop⟩ := lc_open lc9 (by have := HB13.out; omega) (by have := HB13.out; omega) (fun j hj => HKdw.out.cellv (HT.out j hj) id)
          have hkk : k9 = recs.length := anew_k HL8.out (by rw [List.take_left]; exact HT8.out) (bad9 (by first | rfl | trivial) HN6.out) hk1 hk2 hsame
          subst hkk
          rw [List.take_left] at hop
          have HOp : Hid (Calls _ _ _ wd _) := hop
          have HWd : Hid (Wn wd w.heap.size v recs ∧ ∀ b, v.ownBlock = some b → b < w3.heap.size ∧ b ≠ bp ∧ b ≠ d ∧ b ≠ m) := ⟨HWn.out.1.keep HKd.out (fun b e9 => by
            have e' : b = d ∨ b = m ∨ b = g ∨ b = gf := e9
            refine ⟨by have := HBs.out; omega, fun e2 => ?_⟩
            have := HWn.out.2 b e2
            omega), fun b e2 => by have := HWn.out.2 b e2; exact ⟨this.1, this.2.1, this.2.2.1, this.2.2.2.1⟩⟩
          clear kd9 lc9 bad9 hk1 hk2 hsame hop HCr hn7 hn8 hn9 hc7 hc8
          go_wp2_with fail
          refine HOp.out.mono ?_
          rintro e9 we ⟨g', gf', v', dur', rfl, ke, hg', hgf', rwe, lge⟩
          have HKe : Hid (Kp (fun _ => False) w we ∧ Kp (fun x => x = d ∨ x = m) wd we) := ⟨HKdw.out.trans ke (fun b hb e9 => by have e' : b = d ∨ b = m := e9; have := HBs.out; omega), ke⟩
          have HLe : Hid (Lg we g' bp d m gf' 6 0 (i + 1 + 1) (i + 1 + 1) 0 1 (1 - 1 + recs.length) recs.length recs dur' (fun _ => none)) := lge
          obtain ⟨pv', cv', hv', sx'⟩ := rwe.sx (fun ys hy => (lge.lg.fine ys hy).2.2)
          subst hv'
          have hWe : Wn we w.heap.size v recs := HWd.out.1.keep ke (fun b e9 => by
            have e' : b = d ∨ b = m := e9
            refine ⟨by have := HBs.out; omega, fun e2 => ?_⟩
            have := HWd.out.2 b e2
            omega)
          have HWe : Hid (Wn we w.heap.size v recs ∧ ∀ b, v.ownBlock = some b → b < we.heap.size ∧ b ≠ bp ∧ b ≠ d ∧ b ≠ m ∧ b ≠ g' ∧ b ≠ gf') := ⟨hWe, fun b e2 => by
            have h1 := HWd.out.2 b e2
            have h2 := ke.size
            have h3 := HKd.out.size
            exact ⟨by omega, h1.2.1, h1.2.2.1, h1.2.2.2, by omega, by omega⟩⟩
          obtain ⟨pq, cq, hvq, sxq⟩ := hWe.sx
          have HSt : Hid (Calls Tryd.prog 11 #[.slice pv' recs.length cv', v] we fun e w' => e = .returned (.bool true) ∧ w' = we) := by rw [hvq]; exact sameTexts2_ok pv' pq recs.length cv' cq recs rfl we sx' sxq (by have := lge.bounds; omega)
          have HLf : Hid (Calls _ _ _ we _) := life_ok lge.wl
          have hw2 : wrap64 ((i : Int) + 2) = ((i + 1 + 1 : Nat) : Int) := wrap_p2 HB13.out
          have hw3 := wrapI hw2
          have HBe : Hid (w.heap.size ≤ g' ∧ w.heap.size ≤ gf') := by have := HKdw.out.size; exact ⟨by omega, by omega⟩
          clear ke hg' hgf' rwe lge hWe sx' sxq hvq HOp
          go_wp2_with fail
          refine HSt.out.mono ?_
          rintro e9 w9 ⟨rfl, hw9⟩
          have hw8 := hw9.symm
          subst hw8
          clear hw9 HSt
          go_wp2_with fail
          refine HLf.out.mono ?_
          rintro e9 w9 ⟨rfl, hw9⟩
          have hw8 := hw9.symm
          subst hw8
          clear hw9 HLf
          go_wp2
          go_roundg (L - (i + 1))
          case rel => exact ⟨i + 1, g', gf', recs, dur', v, by omega, by have := HB13.out; omega, rfl, rfl, rfl, by first | rw [hwi] | simp, HKe.out.1, by have := HLe.out; rw [Nat.sub_self, Nat.zero_add] at this; exact this, HWe.out, ⟨HBe.out.1, HBe.out.2, HBs.out.2.2⟩⟩
          case measure => omega
        · have HK4 : Hid (Kp (fun x => x = m ∨ x = g ∨ x = gf) w3 w4) := k4
          have HS : Hid (Calls _ _ _ w4 _) := lg_sync l4
          clear k4 l4 HA
          go_wp2_with fail
          refine HS.out.mono ?_
          rintro e9 w5 ⟨rfl, k5, l5⟩
          have hlen : recs.length + 1 = (recs ++ [xs]).length := by simp
          rw [hlen] at l5
          obtain ⟨dur5, hd5⟩ : ∃ x, x = durAll dur T4 (2 + 6) := ⟨_, rfl⟩
          rw [← hd5] at l5
          have HL5 : Hid (Lg w5 g bp d m gf 6 0 (i + 1) (i + 1) 0 1 (recs ++ [xs]).length (recs ++ [xs]).length (recs ++ [xs]) dur5 (fun _ => none)) := l5
          have HK5 : Hid (Kp (fun x => x = d ∨ x = m ∨ x = g ∨ x = gf) w3 w5) := (HK4.out.mono (fun _ _ e => Or.inr e)).trans k5 (fun _ _ e => e.elim Or.inl (fun e => Or.inr (Or.inl e)))
          have hW5 : Wn w5 w.heap.size v recs := (HWn.out.1.keep HK3.out.2 (fun b e => e.elim)).keep HK5.out (fun b e9 => by
            have e' : b = d ∨ b = m ∨ b = g ∨ b = gf := e9
            refine ⟨by have := HBs.out; omega, fun e2 => ?_⟩
            have := HWn.out.2 b e2
            omega)
          have h75 : ¬ (h7 = d ∨ h7 = m ∨ h7 = g ∨ h7 = gf) := by have := HH7.out; omega
          have HL75 : Hid (Lv w5 h7 [.int .i64 op, .int .i64 tn, .int .i64 nn, .slice pb N cb, .slice gt lr ct, .int .u64 mk]) := HL3.out.keep HK5.out h75
          have c3 : w5.cell? ⟨h7, 3, none⟩ = some (.slice pb N cb) := HL75.out.cell (j := 3) rfl
          obtain ⟨vs, hvs1, hvs2, hvs3⟩ := hW5
          obtain ⟨R9, hR9⟩ : ∃ R9, R9 = recs.length := ⟨_, rfl⟩
          obtain ⟨w6, hw6⟩ : ∃ y, y = w5.alloc (.cells #[.slice pb N cb] 28) := ⟨_, rfl⟩
          have k6 : Kp (fun _ => False) w5 w6 := by rw [hw6]; exact (Kp.refl _ _).alloc _
          have HO6 : Hid (w6.ownsRow w.heap.size 28 1 v R9 vs) := by rw [hR9]; exact ownsRow_keep hvs1 k6 (fun _ _ e => e)
          have HC6 : Hid (w6.cell? ⟨w5.heap.size, 0, none⟩ = some (.slice pb N cb)) := by
            have l3 : Lv w6 w5.heap.size [.slice pb N cb] := by rw [hw6]; exact Lv.new _ _ _
            exact l3.cell (j := 0) rfl
          have HB6 : Hid (w.heap.size ≤ w6.heap.size) := Nat.le_trans (Nat.le_trans HK3.out.1.size HK5.out.size) k6.size
          have HR9 : Hid (R9 = recs.length ∧ R9 ≤ 100000) := ⟨hR9, by have := l5.bounds; rw [← hlen] at this; omega⟩
          have HVs : Hid (vs.length = recs.length ∧ ∀ (i : Nat) (x : List Nat) (u : Value), recs[i]? = some x → vs[i]? = some u → ∃ p c, u = Value.slice p x.length c ∧ Rb w5 p x.length x ∧ ∀ a, p = some a → 0 < x.length → a.block < w.heap.size) := ⟨hvs2, hvs3⟩
          have HK6 : Hid (Kp (fun _ => False) w5 w6) := k6
          clear k5 l5 hd5 hvs1 hvs2 hvs3 hR9 k6 HS h75
          go_upto_region 12 with (refine wpList_append_text (w5.alloc (.cells #[.slice pb N cb] 28)) rfl _ _ rfl w.heap.size v R9 vs (.slice pb N cb) w5.heap.size rfl (by rw [← hw6]; exact HO6.out) rfl rfl (by rw [← hw6]; exact HC6.out) HR9.out.2 (by rw [← hw6]; exact HB6.out) ?_; intro v7 w7 o7 k7 hv7; rw [← hw6] at k7 hv7)
          have HV7 : Hid (∀ b, v7.ownBlock = some b → b < w7.heap.size ∧ b ≠ bp ∧ b ≠ d ∧ b ≠ m ∧ b ≠ g ∧ b ≠ gf) := fun b e => by
            have h1 := (ownBlock_lt o7 e).2
            rcases hv7 with h2 | h2
            · have h3 := HWn.out.2 b (h2.symm.trans e)
              exact ⟨h1, h3.2⟩
            · rw [h2] at e
              injection e with e
              have h3 := HL5.out.blk
              have h4 := HK6.out.size
              exact ⟨h1, by omega, by omega, by omega, by omega, by omega⟩
          have HW7 : Hid (Wn w7 w.heap.size v7 (recs ++ [xs])) := by
            rw [HR9.out.1] at o7
            have hN := HNx.out.1
            refine Wn.app (p := pb) (c := cb) HVs.out.1 (fun i x u hx hu => ?_) ?_ (fun a ha h0 => HD.out.hb a ha h0) (by rw [← hN]; exact o7) k7 (fun b e => (ownBlock_lt HO6.out e).1)
            · obtain ⟨p, c, e, hr, hl⟩ := HVs.out.2 i x u hx hu
              exact ⟨p, c, e, hr.keep0 HK6.out, hl⟩
            · exact rb_keepL (HD.out.rb.keep0 HK3.out.1) rfl (HK5.out.trans HK6.out (fun _ _ e => e.elim)) (fun a ha h0 => HD.out.hb a ha h0) (fun b e9 => by have e' : b = d ∨ b = m ∨ b = g ∨ b = gf := e9; have := HBs.out; omega)
          have HKW : Hid (Kp (fun _ => False) w w7) := ((HK3.out.1.trans HK5.out (fun b hb e9 => by have e' : b = d ∨ b = m ∨ b = g ∨ b = gf := e9; have := HBs.out; omega)).trans HK6.out (fun _ _ e => e)).trans k7 (fun b hb e => by have := (ownBlock_lt HO6.out e).1; omega)
          have HLL : Hid (Lg w7 g bp d m gf 6 0 (i + 1) (i + 1) 0 1 (recs ++ [xs]).length (recs ++ [xs]).length (recs ++ [xs]) dur5 (fun _ => none)) := (HL5.out.keep0 HK6.out).keep k7 (fun e => (HWn.out.2 _ e).2.2.2.2.1 rfl) (fun e => (HWn.out.2 _ e).2.1 rfl) (fun e => (HWn.out.2 _ e).2.2.1 rfl) (fun e => (HWn.out.2 _ e).2.2.2.1 rfl) (fun e => (HWn.out.2 _ e).2.2.2.2.2 rfl)
          have HL7 : Hid (Lv w7 h7 [.int .i64 op, .int .i64 tn, .int .i64 nn, .slice pb N cb, .slice gt lr ct, .int .u64 mk]) := (HL75.out.keep HK6.out id).keep k7 (fun e => by have := HWn.out.2 _ e; have := HH7.out; omega)
          have HWn : Hid (Wn w7 w.heap.size v7 (recs ++ [xs]) ∧ ∀ b, v7.ownBlock = some b → b < w7.heap.size ∧ b ≠ bp ∧ b ≠ d ∧ b ≠ m ∧ b ≠ g ∧ b ≠ gf) := ⟨HW7.out, HV7.out⟩
          obtain ⟨rz, hrz⟩ : ∃ rz, rz = recs ++ [xs] := ⟨_, rfl⟩
          rw [← hrz] at HLL HWn
          clear o7 k7 hv7 hw6 c3 HW7 HL5 hlen hrz
          -- the record that is lost
          have HA2 : Hid (∀ u g9, Kp (fun _ => False) w7 u → w.heap.size ≤ g9 → u.cell? ⟨g9, 0, none⟩ = some (.int .u8 9) → u.cell? ⟨g9, 1, none⟩ = some (.int .u8 (i : Int)) → g9 ≠ m → g9 ≠ g → g9 ≠ gf → Calls Tryd.prog 6 #[.pointer (some ⟨g, 0, none⟩), .slice (some ⟨g9, 0, none⟩) 2 2] u fun e9 w' => ∃ z1 z2 : Int, e9 = .returned (.tuple #[.int .i64 z1, .int .i64 z2]) ∧ Kp (fun x => x = m ∨ x = g ∨ x = gf) u w' ∧ ∃ q' lt' l T', Lg w' g bp d m gf 6 q' (i + 1) (i + 1) 0 1 lt' rz.length (rz ++ l) dur5 T' ∧ ∀ t, totW rz ≤ t → t < totW (rz ++ l) → ∃ xs, T' (2 + (0 + t) % 6) = some xs) := fun u g9 ku hg9 hc0 hc1 n1 n2 n3 => by
            refine lg_append_any (HLL.out.keep0 ku) (some ⟨g9, 0, none⟩) 2 2 [9, i] ⟨rfl, fun x hx => by have := HB13.out; simp at hx; omega, fun j hj => ?_⟩ (Nat.le_refl _) (fun z hz _ => by cases hz; exact ⟨n1, n2, n3⟩) (fun j hj => (HKW.out.trans ku (fun _ _ e => e)).cellv (HT.out j hj) id)
            refine ⟨g9, 0, rfl, ?_⟩
            match j, hj with
            | 0, _ => exact hc0
            | 1, _ => exact hc1
          obtain ⟨g9, hg9⟩ : ∃ g9, g9 = w7.heap.size := ⟨_, rfl⟩
          obtain ⟨wb, hwb⟩ : ∃ y, y = w7.alloc (.cells #[.int .u8 9, .int .u8 (i : Int)] 5) := ⟨_, rfl⟩
          have HKb : Hid (Kp (fun _ => False) w7 wb) := by rw [hwb]; exact (Kp.refl _ _).alloc _
          have HCb : Hid (Lv wb g9 [.int .u8 9, .int .u8 (i : Int)]) := by rw [hwb, hg9]; exact Lv.new _ _ _
          have HG9 : Hid (w.heap.size ≤ g9 ∧ g9 ≠ m ∧ g9 ≠ g ∧ g9 ≠ gf) := by
            have h1 := HLL.out.blk
            have h2 := HKW.out.size
            exact ⟨by omega, by omega, by omega, by omega⟩
          have hu8 : IntKind.u8.wrap (i : Int) = (i : Int) := wrap_u8i HB13.out
          have hc7 : w7.cell? ⟨h7, 1, none⟩ = some (.int .i64 tn) := HL7.out.cell (j := 1) rfl
          have hc8 : w7.cell? ⟨h7, 2, none⟩ = some (.int .i64 nn) := HL7.out.cell (j := 2) rfl
          go_wp2_with fail
          rw [← hwb, ← hg9]
          clear hwb hg9 hu8
          refine (HA2.out wb g9 HKb.out HG9.out.1 (HCb.out.cell (j := 0) rfl) (HCb.out.cell (j := 1) rfl) HG9.out.2.1 HG9.out.2.2.1 HG9.out.2.2.2).mono ?_
          rintro e9 wc ⟨z1, z2, rfl, kc, q8, lt8, l8, T8, lc8, ht8⟩
          have HK8 : Hid (Kp (fun x => x = m ∨ x = g ∨ x = gf) w7 wc) := (HKb.out.mono (fun _ _ e => e.elim)).trans kc (fun _ _ e => e)
          have HL8 : Hid (Lg wc g bp d m gf 6 q8 (i + 1) (i + 1) 0 1 lt8 rz.length (rz ++ l8) dur5 T8) := lc8
          have HT8 : Hid (∀ t, totW rz ≤ t → t < totW (rz ++ l8) → ∃ xs, T8 (2 + (0 + t) % 6) = some xs) := ht8
          have h78 : ¬ (h7 = m ∨ h7 = g ∨ h7 = gf) := by have := HH7.out; omega
          have hc7 : wc.cell? ⟨h7, 1, none⟩ = some (.int .i64 tn) := HK8.out.cellv (HL7.out.cell (j := 1) rfl) h78
          have hc8 : wc.cell? ⟨h7, 2, none⟩ = some (.int .i64 nn) := HK8.out.cellv (HL7.out.cell (j := 2) rfl) h78
          clear kc lc8 ht8 h78 HA2
          obtain ⟨n6, hn6⟩ : ∃ n6, n6 = nn.tmod 60 := ⟨_, rfl⟩
          have HN6 : Hid (torn64 n6 ≤ 63) := by rw [hn6]; exact torn_60 nn
          have hn7 : nn.tmod 60 = n6 := hn6.symm
          have hn8 : wrap64 (nn.tmod 60) = n6 := by rw [hn6]; exact wrap_60 nn
          have hn9 : IntKind.i64.wrap (nn.tmod 60) = n6 := wrapI hn8
          have HCr : Hid (Calls _ _ _ wc _) := lg_crash HL8.out none 0 [] tn n6 (fun w' _ j hj => absurd hj (Nat.not_lt_zero _)) (fun z hz => by cases hz) HD.out.wt (by decide)
          clear hn6
          go_wp2_with fail
          refine HCr.out.mono ?_
          rintro e9 wd ⟨rfl, kd9, lc9, bad9⟩
          have HKd : Hid (Kp (fun x => x = d ∨ x = m ∨ x = g ∨ x = gf) w7 wd) := (HK8.out.mono (fun _ _ e => Or.inr e)).trans kd9 (fun _ _ e => e.elim Or.inl (fun e => Or.inr (Or.inl e)))
          have HKdw : Hid (Kp (fun _ => False) w wd) := HKW.out.trans HKd.out (fun b hb e9 => by have e' : b = d ∨ b = m ∨ b = g ∨ b = gf := e9; have := HBs.out; omega)
          obtain ⟨k9, hk1, hk2, hsame, hop⟩ := lc_open lc9 (by have := HB13.out; omega) (by have := HB13.out; omega) (fun j hj => HKdw.out.cellv (HT.out j hj) id)
          have hkk : k9 = rz.length := anew_k HL8.out (by rw [List.take_left]; exact HT8.out) (bad9 (by first | rfl | trivial) HN6.out) hk1 hk2 hsame
          subst hkk
          rw [List.take_left] at hop
          have HOp : Hid (Calls _ _ _ wd _) := hop
          have HWd : Hid (Wn wd w.heap.size v7 rz ∧ ∀ b, v7.ownBlock = some b → b < w7.heap.size ∧ b ≠ bp ∧ b ≠ d ∧ b ≠ m) := ⟨HWn.out.1.keep HKd.out (fun b e9 => by
            have e' : b = d ∨ b = m ∨ b = g ∨ b = gf := e9
            refine ⟨by have := HBs.out; omega, fun e2 => ?_⟩
            have := HWn.out.2 b e2
            omega), fun b e2 => by have := HWn.out.2 b e2; exact ⟨this.1, this.2.1, this.2.2.1, this.2.2.2.1⟩⟩
          clear kd9 lc9 bad9 hk1 hk2 hsame hop HCr hn7 hn8 hn9 hc7 hc8
          go_wp2_with fail
          refine HOp.out.mono ?_
          rintro e9 we ⟨g', gf', v', dur', rfl, ke, hg', hgf', rwe, lge⟩
          have HKe : Hid (Kp (fun _ => False) w we ∧ Kp (fun x => x = d ∨ x = m) wd we) := ⟨HKdw.out.trans ke (fun b hb e9 => by have e' : b = d ∨ b = m := e9; have := HBs.out; omega), ke⟩
          have HLe : Hid (Lg we g' bp d m gf' 6 0 (i + 1 + 1) (i + 1 + 1) 0 1 (1 - 1 + rz.length) rz.length rz dur' (fun _ => none)) := lge
          obtain ⟨pv', cv', hv', sx'⟩ := rwe.sx (fun ys hy => (lge.lg.fine ys hy).2.2)
          subst hv'
          have hWe : Wn we w.heap.size v7 rz := HWd.out.1.keep ke (fun b e9 => by
            have e' : b = d ∨ b = m := e9
            refine ⟨by have := HBs.out; omega, fun e2 => ?_⟩
            have := HWd.out.2 b e2
            omega)
          have HWe : Hid (Wn we w.heap.size v7 rz ∧ ∀ b, v7.ownBlock = some b → b < we.heap.size ∧ b ≠ bp ∧ b ≠ d ∧ b ≠ m ∧ b ≠ g' ∧ b ≠ gf') := ⟨hWe, fun b e2 => by
            have h1 := HWd.out.2 b e2
            have h2 := ke.size
            have h3 := HKd.out.size
            exact ⟨by omega, h1.2.1, h1.2.2.1, h1.2.2.2, by omega, by omega⟩⟩
          obtain ⟨pq, cq, hvq, sxq⟩ := hWe.sx
          have HSt : Hid (Calls Tryd.prog 11 #[.slice pv' rz.length cv', v7] we fun e w' => e = .returned (.bool true) ∧ w' = we) := by rw [hvq]; exact sameTexts2_ok pv' pq rz.length cv' cq rz rfl we sx' sxq (by have := lge.bounds; omega)
          have HLf : Hid (Calls _ _ _ we _) := life_ok lge.wl
          have hw2 : wrap64 ((i : Int) + 2) = ((i + 1 + 1 : Nat) : Int) := wrap_p2 HB13.out
          have hw3 := wrapI hw2
          have HBe : Hid (w.heap.size ≤ g' ∧ w.heap.size ≤ gf') := by have := HKdw.out.size; exact ⟨by omega, by omega⟩
          clear ke hg' hgf' rwe lge hWe sx' sxq hvq HOp
          go_wp2_with fail
          refine HSt.out.mono ?_
          rintro e9 w9 ⟨rfl, hw9⟩
          have hw8 := hw9.symm
          subst hw8
          clear hw9 HSt
          go_wp2_with fail
          refine HLf.out.mono ?_
          rintro e9 w9 ⟨rfl, hw9⟩
          have hw8 := hw9.symm
          subst hw8
          clear hw9 HLf
          go_wp2
          go_roundg (L - (i + 1))
          case rel => exact ⟨i + 1, g', gf', rz, dur', v7, by omega, by have := HB13.out; omega, rfl, rfl, rfl, by first | rw [hwi] | simp, HKe.out.1, by have := HLe.out; rw [Nat.sub_self, Nat.zero_add] at this; exact this, HWe.out, ⟨HBe.out.1, HBe.out.2, HBs.out.2.2⟩⟩
          case measure => omega
    · have hiL : i = L := by omega
      subst hiL
      have hlt2 : ¬ ((i : Int) < (i : Int)) := by omega
      have HLf : Hid (Calls _ _ _ wr _) := life_ok HLL.out.wl
      have hpos : ((i + 1 : Nat) : Int) > 0 := by omega
      go_wp2_with fail
      refine HLf.out.mono ?_
      rintro e9 w9 ⟨rfl, hw9⟩
      have hw8 := hw9.symm
      subst hw8
      clear hw9 HLf
      go_wp2
      go_ret
      exact ⟨rfl, HK.out⟩
end Go.Proofs.YtfmndffgmemgpaaDoor

/- What the rows' listed table gives the walks: each cell of frame.turns; and a start that meets the rows' condition. -/
namespace Go.Proofs.YtfmndffgmemgpaaDoor
open Go.ChangeShapes Go.WideShapes Go.ChangeAt Go.WideMaps Go.WideElems Go.RowKit

abbrev laid1 : List (String × DataW Unit) := [("amphora/frame.turns", Rows.laid_amphora_frame_turns)]
theorem own : ownKnob Tryd.prog.godebug = none := by kernel_rfl
theorem gTurns : Tryd.prog.globalNamed "amphora/frame.turns" = some 0 := by kernel_rfl
theorem tTurns : (Tryd.prog.globals[0]?).map (·.type) = some 136 := by kernel_rfl
theorem laid_met (os : Os) (args : Array Value) : laidMetH Tryd.prog laid1 ((World.doorLaid Tryd.prog 400 os).forCall (fun _ _ => 0) ⟨#[], args, []⟩).memory :=
  laidMetH_of_parts3 (fuel := 8) (laidMet_of_run' 8 (by kernel_rfl) (by kernel_rfl)) (by kernel_rfl) (by kernel_rfl)

theorem word_at {W : World} {cs : Array Value} {t : TypeId} {n fuel : Nat} {p : List MemPlace} (ht : Tryd.prog.underlying t = some (.array n 118)) (ds : List Nat)
    (hd : DataW.trod (fun _ : TypeId × Value => ()) Tryd.prog W 0 (fun _ => true) false fuel t cs.toList = some (.agg (ds.map fun z : Nat => .lit (.int .u32 (z : Int))), p)) (i : Nat) (hi : i < n) :
    cs[i]? = some (.int .u32 ((ds.getD i 0 : Nat) : Int)) := by
  obtain ⟨xs, m, rfl, hx, hlen, hn, hel⟩ := DataW.trod_array ht hd
  have c5 : Tryd.prog.cellsOf 118 = 1 := by kernel_rfl
  have h := hel i hi
  rw [c5, Nat.mul_one] at h
  have hxi : xs[i]? = some xs[i] := List.getElem?_eq_getElem (by omega)
  rw [hxi] at h
  obtain ⟨k, e1, e2, _⟩ := DataW.trod_int Tryd.underlying118 h
  simp only [Prod.mk.injEq, DataW.agg.injEq] at hx
  have hm := congrArg (fun l => l[i]?) hx.1
  simp only [List.getElem?_map, hxi, Option.map_some] at hm
  cases hz : ds[i]? with
  | none => rw [hz] at hm; simp at hm
  | some z =>
    rw [hz, Option.map_some, e2] at hm
    simp only [Option.some.injEq, DataW.lit.injEq, Lit.int.injEq] at hm
    have hk : k = (z : Int) := hm.2.symm
    have h0 : (List.take 1 (List.drop i cs.toList))[0]? = some (Value.int .u32 k) := by rw [e1]; rfl
    rw [List.getElem?_take_of_lt (by omega), List.getElem?_drop, Nat.add_zero, Array.getElem?_toList] at h0
    rw [h0, hk, List.getD_eq_getElem?_getD, hz]
    rfl

theorem turns_of {W : World} {cs : Array Value} {fuel : Nat} {p : List MemPlace} (hv : World.var? Tryd.prog W "amphora/frame.turns" = some cs)
    (hd : DataW.trod (fun _ : TypeId × Value => ()) Tryd.prog W 0 (fun _ => true) false fuel 136 cs.toList = some (Rows.laid_amphora_frame_turns, p)) : Turns W := by
  intro k hk
  have hb := word_at (ds := [0, 274646895, 549293790, 820201905, 1098587580, 1361435347, 1640403810, 1905808397, 2197175160, 2460548119, 2722870694, 2987750089, 3280807620, 3553878443, 3811616794, 4084100981]) Tryd.underlying136 hd k hk
  have hc := World.var?_cell gTurns hv k
  rw [hc, hb]
  have : ∀ k, k < 16 → ([0, 274646895, 549293790, 820201905, 1098587580, 1361435347, 1640403810, 1905808397, 2197175160, 2460548119, 2722870694, 2987750089, 3280807620, 3553878443, 3811616794, 4084100981] : List Nat).getD k 0 = Crc.tn k := by decide
  rw [this k hk]

/-- what the rows that list the turns give the walks -/
theorem turns_of_laid {W : World} (h : laidMetH Tryd.prog laid1 W) : Turns W := by
  rw [MakeChecks.laidMetH_plain _ _ _ (by kernel_rfl)] at h
  obtain ⟨ps, ⟨g1, t1, cs1, f1, p1, q1, hg1, ht1, hv1, hd1, _, _⟩, _, _⟩ := h
  obtain rfl := Option.some.inj (gTurns.symm.trans hg1)
  obtain rfl := Option.some.inj (tTurns.symm.trans ht1)
  exact turns_of hv1 hd1
end Go.Proofs.YtfmndffgmemgpaaDoor
