/- The reference's Decode, of whatever shards. -/
import Derived.Test.YtbmhfclknilcoaaDoorRd0
import Derived.Test.YtbmhfclknilcoaaDoorM19
namespace Go.Proofs.YtbmhfclknilcoaaDoor
open Go.RowKit Go.Deep

theorem Mo.mx {w : World} {t cap n : Nat} {B C : Nat → Nat} {M : Nat → Nat → Nat} (h : Mo w t B C n M) (hb : ∀ i j, M i j < 256) : Mx w (.slice (some ⟨t, 0, none⟩) n cap) n n M :=
  ⟨⟨some ⟨t, 0, none⟩, n, cap, t, 0, fun r => some ⟨B r, 0, none⟩, fun _ => n, C, B, fun _ => 0, M⟩, rfl,
    ⟨fun _ => rfl, fun r hr => by have := h.top.cell hr; simpa using this, fun _ _ _ _ => rfl, fun r hr c hc => by have := (h.row r hr).cell hc; simpa using this, hb⟩, rfl, fun _ _ => rfl, rfl⟩
theorem refRowsX (a v : Value) (n m k : Nat) (A : Nat → Nat → Nat) (l : Nat → Nat) (w : World) (ha : Mx w a n m A) (hl : Ls w v k l) (hb : ∀ j, j < k → l j < n) (n1 : 1 ≤ n) (n2 : n ≤ 255) (m1 : 1 ≤ m) (m2 : m ≤ 255) (k1 : 1 ≤ k) (k2 : k ≤ 255) :
    Calls Tryd.prog 25 #[a, v] w fun e w' => ∃ v', e = .returned (.tuple #[v', .int .i64 0]) ∧ Kp (fun _ => False) w w' ∧ Mx w' v' k m (fun r => A (l r)) := by
  obtain ⟨s, rfl, hs, rfl, hsL, rfl⟩ := ha
  obtain ⟨pa, ba, oa, ca, rfl, h1, h2⟩ := hl
  refine (refRows_any s pa ba oa k ca (fun j => ((l j : Nat) : Int)) w hs (isM_of rfl hsL n1 n2 m1 m2) h1 h2 (by omega) (by omega)).mono ?_
  rintro e w' ⟨hK, ⟨_, hbad⟩ | ⟨v, rfl, _, hM⟩⟩
  · exact absurd (fun k hk => ⟨by omega, by have := hb k hk; omega⟩) hbad
  · rw [hsL 0 (by omega)] at hM
    exact ⟨v, rfl, hK, hM⟩
theorem refInvertX (a : Value) (n : Nat) (A : Nat → Nat → Nat) (w : World) (ha : Mx w a n n A) (hnf : ∀ i W, i < n → El A n i W → ¬ NoPiv W n i) (n1 : 1 ≤ n) (n2 : n ≤ 255) :
    Calls Tryd.prog 26 #[a] w fun e w' => ∃ v W, e = .returned (.tuple #[v, .int .i64 0]) ∧ Kp (fun _ => False) w w' ∧ El A n n W ∧ Mx w' v n n (right W n) := by
  obtain ⟨s, rfl, hs, hG, hsL, rfl⟩ := ha
  rw [hG]
  refine (refInvert_any s n w hs hG hsL (by omega) (by omega)).mono ?_
  rintro e w' ⟨hK, ⟨rfl, i, W, hi, hEi, hno⟩ | ⟨to, cap, B, C, V, rfl, hV, hM⟩⟩
  · exact absurd hno (hnf i W hi hEi)
  · exact ⟨_, V, rfl, hK, hV, hM.mx (fun i j => (hV.keeps hs.byte).byte _ _)⟩
/-- both ways of decoding are one -/
theorem decM_assoc {K : Nat} {M : Nat → Nat → Nat} (hM : ∀ i j, M i j < 256) {xs : List Nat} {W : Nat → Nat → Nat} (hW : ∀ i j, W i j < 256) (to : Nat → Nat) (i p : Nat) :
    decM K M xs W to i p = enc K (fun j q => prodTo (right W K) (fun j q => M (xs.getD j 0) q) K j q) (to i) p := by
  unfold decM enc
  have := prod_assoc (fun r => gen K (to r)) (right W K) (fun j q => M (xs.getD j 0) q) (fun i j => gen_lt _ _ _) (fun i j => hW _ _) (fun i j => hM _ _) K K i p
  rw [this]
  rfl

set_option maxRecDepth 100000 in
set_option maxHeartbeats 6400000 in
theorem refDecode_yesC (K M : Nat) (s : Sh) (w : World) (hs : Rd w s) (hG : s.G = K + M) (h1 : 1 ≤ (K : Int)) (h3 : (M : Int) ≤ 255 - (K : Int)) (hal : alikeTo s.L (K + M) (K + M) = true) (hK : K ≤ (thereTo s.L (K + M)).length) (hn : (len0 s.L (K + M) : Int) ≤ 1000000) :
    Calls Tryd.prog 8 #[.agg #[.int .i64 K, .int .i64 M], .slice s.g (K + M) s.cap] w fun e w' =>
      ∃ v W, e = .returned (.tuple #[v, .int .i64 0]) ∧ Kp (fun _ => False) w w' ∧ El (fun r => gen K ((firstK s.L (K + M) K).getD r 0)) K K W ∧
        Mxc w' v (K + M) (len0 s.L (K + M)) (enc K (fun j q => prodTo (right W K) (fun j q => s.M ((firstK s.L (K + M) K).getD j 0) q) K j q)) := by
  obtain ⟨wa, hwa, ka, za, q1, q2⟩ := code_alloc w K M
  have HC : Hid (Calls _ _ _ wa _) := refSome_yes K M s wa (hs.keep ka) hG h1 h3
  have hgs := hs.at0 (by omega)
  rw [hgs] at HC ⊢
  have HLL : Hid (∀ j, j < K → _) := firstK_all hal hK
  have hn1 : 1 ≤ len0 s.L (K + M) := by
    have := (firstK_all hal hK 0 (by omega)).2.1
    have hm := firstK_mem (getD_mem (xs := firstK s.L (K + M) K) (j := 0) (by rw [firstK_len hK]; omega))
    omega
  have hFx : ∀ j, j < K → (firstK s.L (K + M) K).getD j 0 = (thereTo s.L (K + M)).getD j 0 := fun j hj => by
    unfold firstK
    simp only [List.getD_eq_getElem?_getD, List.getElem?_take]
    rw [if_pos hj]
  have HT : Hid (K ≤ (thereTo s.L (K + M)).length) := hK
  have HTL := thereTo_le s.L (K + M)
  have HA : Hid (alikeTo s.L (K + M) (K + M) = true) := hal
  obtain ⟨N, hN⟩ : ∃ N, N = K + M := ⟨_, rfl⟩
  rw [← hN] at HLL hn hn1 hFx HT HTL HA HC hG ⊢
  obtain ⟨n, hne⟩ : ∃ x, x = len0 s.L N := ⟨_, rfl⟩
  rw [← hne] at HLL hn hn1 ⊢
  obtain ⟨xs, hxs⟩ : ∃ x, x = firstK s.L N K := ⟨_, rfl⟩
  rw [← hxs] at HLL hFx ⊢
  obtain ⟨ys, hys⟩ : ∃ x, x = thereTo s.L N := ⟨_, rfl⟩
  rw [← hys] at HC hFx HT HTL
  have HFx : Hid _ := hFx
  have hNi : ((K : Int) + (M : Int)) = (N : Int) := by omega
  have hN1 : 1 ≤ (N : Int) := by omega
  have hN2 : (N : Int) ≤ 255 := by omega
  have HS : Hid (Rd w s) := hs
  have HG : Hid (s.G = N) := hG
  have HYl : Hid (ys.length ≤ N) := HTL
  have HNe : Hid (N = K + M) := hN
  clear hal hK hs hG hFx HTL hxs hys hne hN
  go_enter Tryd.func8, Tryd.ntmps8
  go_wp2_with fail
  rw [← hwa]
  refine HC.out.mono ?_
  rintro e w1 ⟨k1, ⟨hbad, _⟩ | ⟨_, v, rfl, hSel⟩⟩
  · rw [HA.out] at hbad; cases hbad
  clear HC hwa
  obtain ⟨pa, ba, cv, rfl, hx1, hx2⟩ := hSel.ls
  obtain ⟨rfl, hb1, hb2, hb3⟩ := hx1 (fun e => by have := HT.out; rw [e] at this; simp at this; omega)
  have r1 := k1.cellv q1 id
  have r2 := k1.cellv q2 id
  have kk := ka.trans k1 (fun _ _ e => e)
  have hcv : (K : Int) ≤ (cv : Int) := by have := HT.out; omega
  have HX : Hid (∀ k, k < K → w1.cell? ⟨ba, k, none⟩ = some (.int .i64 ((xs.getD k 0 : Nat) : Int))) := fun k hk => by
    have := hx2 k (by have := HT.out; omega)
    rw [Nat.zero_add] at this
    rw [this, HFx.out k hk]
  obtain ⟨m, hm⟩ : ∃ m, m = ys.length := ⟨_, rfl⟩
  have hKm : (K : Int) ≤ (m : Int) := by have := HT.out; omega
  have d1 : decide ((m : Int) < (K : Int)) = false := by simp; omega
  rw [← hm]
  clear hx1 hx2 hSel q1 q2 hb1 hb2 hb3 HFx HT HYl hm
  have HGe : Hid (Calls _ _ _ w1 _) := refGenerator_yes K M w1 h1 h3
  rw [← HNe.out] at HGe
  go_wp2_with fail
  refine HGe.out.mono ?_
  rintro e w2 ⟨vg, rfl, k2, hg2⟩
  have HRo : Hid (Calls _ _ _ w2 _) := refRowsX vg (.slice (some ⟨ba, 0, none⟩) K cv) N K K (gen K) (fun j => xs.getD j 0) w2 hg2 ⟨_, ba, 0, cv, rfl, fun _ _ => rfl, fun k hk => by rw [Nat.zero_add]; exact k2.cellv (HX.out k hk) id⟩ (fun j hj => (HLL.out j hj).1) (by omega) (by omega) (by omega) (by omega) (by omega) (by omega)
  have kk2 := kk.trans k2 (fun _ _ e => e)
  have s1 := k2.cellv r1 id
  have s2 := k2.cellv r2 id
  clear HGe hg2 r1 r2
  go_wp2_with fail
  refine HRo.out.mono ?_
  rintro e w3 ⟨vr, rfl, k3, hr3⟩
  have HIn : Hid (Calls _ _ _ w3 _) := refInvertX vr K (fun r => gen K (xs.getD r 0)) w3 hr3 (fun i W hi hE => any_no_fail (l := fun r => xs.getD r 0) (by omega) (fun j hj => ⟨by have := (HLL.out j hj).1; omega, (HLL.out j hj).2.2⟩) hE hi) (by omega) (by omega)
  have kk3 := kk2.trans k3 (fun _ _ e => e)
  have t1 := k3.cellv s1 id
  have t2 := k3.cellv s2 id
  have HX3 : Hid (∀ k, k < K → w3.cell? ⟨ba, k, none⟩ = some (.int .i64 ((xs.getD k 0 : Nat) : Int))) := fun k hk => k3.cellv (k2.cellv (HX.out k hk) id) id
  clear HRo hr3 s1 s2 HX
  go_wp2_with fail
  refine HIn.out.mono ?_
  rintro e w4 ⟨vb, W, rfl, k4, hE, hb4⟩
  have kk4 := kk3.trans k4 (fun _ _ e => e)
  have c1 := k4.cellv t1 id
  have c2 := k4.cellv t2 id
  have HX4 : Hid (∀ k, k < K → w4.cell? ⟨ba, k, none⟩ = some (.int .i64 ((xs.getD k 0 : Nat) : Int))) := fun k hk => k4.cellv (HX3.out k hk) id
  have hW : ∀ i j, W i j < 256 := fun i j => (hE.keeps (fun _ _ => gen_lt _ _ _)).byte _ _
  have HE : Hid (El _ _ _ W) := hE
  have hmk := run_make_row' (P := Tryd.prog) 24 30 (.slice none 0 0) 24 Tryd.underlying24 info42 rfl .i64 .i64 K (by omega) (by omega)
  obtain ⟨D, hD⟩ : ∃ D : Nat → Nat → Nat, D = fun j q => prodTo (right W K) (fun j q => s.M (xs.getD j 0) q) K j q := ⟨_, rfl⟩
  have HO : Hid _ := Ob.start w4 w4 K D (Kp.refl _ _)
  have HD : Hid (D = fun j q => prodTo (right W K) (fun j q => s.M (xs.getD j 0) q) K j q) := hD
  have Hb : Hid (Mx w4 vb K K (right W K)) := hb4
  have a0 := HX4.out 0 (by omega)
  have Hs4 : Hid (∀ r, r < K → w4.cell? ⟨s.gb, s.go + xs.getD r 0, none⟩ = some (.slice (some ⟨s.RB (xs.getD r 0), s.RO (xs.getD r 0), none⟩) n (s.C (xs.getD r 0)))) := fun r hr => by
    have hl := HLL.out r hr
    have := kk4.cellv (HS.out.hd _ (by rw [HG.out]; exact hl.1)) id
    rw [hl.2.1, HS.out.to _ (by rw [HG.out]; exact hl.1) 0 (by rw [hl.2.1]; omega)] at this
    exact this
  have b0 := Hs4.out 0 (by omega)
  clear HIn t1 t2 HX3 hE hb4 hD hW
  obtain ⟨x0, hx0⟩ : ∃ x, x = xs.getD 0 0 := ⟨_, rfl⟩
  rw [← hx0] at a0 b0
  have hx0N : (x0 : Int) < (N : Int) := by have := (HLL.out 0 (by omega)).1; omega
  clear hx0
  have ke := (Kp.refl (fun _ => False) w4).alloc (.cells (madeCells #[.slice none 0 0] K) 30)
  have a0' := ke.cellv a0 id
  have b0' := ke.cellv b0 id
  go_wp2
  clear hmk a0 a0' b0 b0' hx0N
  go_loopg [65] n (fun gk i wr => ∃ (c : Nat) (V : Nat → Value), c ≤ n ∧ gk = n - c ∧ i = .int .i64 c ∧ Ob w4 wr w4.heap.size K (fun _ => c) V D)
  case atStart => exact ⟨0, _, Nat.zero_le _, rfl, rfl, HO.out⟩
  case round =>
    obtain ⟨c, V, hc, rfl, rfl, hOb⟩ := hrel
    obtain ⟨wr0, rfl⟩ : ∃ x, x = wr := ⟨_, rfl⟩
    clear HO
    by_cases hlc : (c : Int) < (n : Int)
    · go_wp2
      go_loopg [16, 70] K (fun gk v i wq => ∃ (r : Nat) (B : Nat → Nat), r ≤ K ∧ gk = K - r ∧ i = .int .i64 r ∧ Gath wr0 wq v 1 r B (fun r _ => s.M (xs.getD r 0) c))
      case atStart => exact ⟨0, _, Nat.zero_le _, rfl, rfl, Gath.start wr0 _ _⟩
      case round =>
        obtain ⟨r, B, hr, rfl, rfl, hGa⟩ := hrel
        obtain ⟨wq0, rfl⟩ : ∃ x, x = wr := ⟨_, rfl⟩
        by_cases hlr : (r : Int) < (K : Int)
        · have f0 := hGa.kept.cellv (hOb.kept.cellv (HX4.out r (by omega)) id) id
          have f1 := hGa.kept.cellv (hOb.kept.cellv (Hs4.out r (by omega)) id) id
          have hl := HLL.out r (by omega)
          have f2 := hGa.kept.cellv (hOb.kept.cellv (kk4.cellv (HS.out.cell (xs.getD r 0) (by rw [HG.out]; exact hl.1) c (by rw [hl.2.1]; omega)) id) id) id
          have hrow := row_one_new wq0 (fun _ => s.M (xs.getD r 0) c)
          have hsz := hGa.kept.size
          have hxN : ((xs.getD r 0 : Nat) : Int) < (N : Int) := by have := hl.1; omega
          obtain ⟨ti, hi0, hz0, hz1, hz2⟩ := info_parts info42
          have HOw : Hid (wq0.ownsRow _ _ _ _ _ _) := hGa.own
          have HGa : Hid (Gath _ _ _ _ _ _ _) := hGa
          clear hGa hl
          generalize hxr : xs.getD r 0 = xr at *
          have HXr : Hid (xs.getD r 0 = xr) := hxr
          clear hxr
          go_wp2_with (at_builtin; go_must (refine wpList_append_own_at _ rfl _ _ 24 rfl wr0.heap.size 30 ti (.slice none 0 0) 1 24 Tryd.underlying24 hi0 hz0 hz1 hz2 rfl (by decide) _ _ _ rfl ((HOw.out.alloc _).alloc _) ⟨wq0.heap.size + 1, 0, none⟩ 1 1 [.slice (some ⟨wq0.heap.size, 0, none⟩) 1 1] rfl rfl (cell_one_new2 _ _ _ _ _ (by simp)) (fun x hx => by simp at hx; subst hx; rfl) (by unfold maxLen; omega) (by omega) (by simp; omega) ?_); intro v' w3 hown' hgrow3 hnil3 hblk3)
          go_roundg (K - (r + 1))
          case rel => exact ⟨r + 1, _, by omega, rfl, by go_num, HGa.out.step ((Kp.refl _ _).alloc _) (by rw [HXr.out]; exact hrow) hown' hgrow3 hblk3⟩
          case measure => omega
        · have er : K = r := by omega
          subst er
          have hcol : Mx wq0 u16 K 1 (fun r _ => s.M (xs.getD r 0) c) := by
            obtain ⟨tc, capc, rfl, _, hMt⟩ := hGa.mt (by omega) (fun i j => HS.out.byte _ c)
            exact hMt.mx capc
          have HMu : Hid (Calls _ _ _ wq0 _) := refMulX vb u16 K K 1 _ _ wq0 ((Hb.out.keep hOb.kept).keep hGa.kept) hcol (by omega) (by omega) (by omega) (by omega) (by omega) (by omega)
          have kG := hGa.kept
          clear hcol hGa hlr hr
          go_wp2_with fail
          refine HMu.out.mono ?_
          rintro e w5 ⟨tp, capp, Bp, rfl, k5, hlo1, hlo2, hMt⟩
          have hO5 := (hOb.keep kG).keep k5
          have HEq : Hid (∀ i, i < K → prodTo (right W K) (fun r _ => s.M (xs.getD r 0) c) K i 0 = D i c) := fun i _ => by rw [HD.out]; rfl
          have HLt : Hid (∀ r, r < K → ∀ b, (V r).ownBlock = some b → b < wq0.heap.size) := fun r hr b e => by have := (ownBlock_lt (hOb.own r hr) e).2; have := kG.size; omega
          have hO5t : w4.heap.size < wq0.heap.size := by have := hOb.top.lt; have := kG.size; omega
          clear HMu
          go_wp2
          go_loopg [94] K (fun gk i wz => ∃ (k : Nat) (V' : Nat → Value), k ≤ K ∧ gk = K - k ∧ i = .int .i64 k ∧ Kp (fun b => b < wq0.heap.size) w5 wz ∧ Hid (∀ r, k ≤ r → r < K → V' r = V r) ∧ Ob w4 wz w4.heap.size K (fun r => if r < k then c + 1 else c) V' D)
          case atStart => exact ⟨0, V, Nat.zero_le _, rfl, rfl, Kp.refl _ _, fun _ _ _ => rfl, hO5.congrL (fun r _ => by rw [if_neg (by omega)])⟩
          case round =>
            obtain ⟨k, V', hk, rfl, rfl, kz, hVV, hOz⟩ := hrel
            obtain ⟨wz, rfl⟩ : ∃ x, x = wr := ⟨_, rfl⟩
            clear hO5 hOb
            by_cases hlk : (k : Int) < (K : Int)
            · have g1 := hOz.top.cell (i := k) (by omega)
              have g2 := kz.cellv (hMt.top k (by omega)) (by simp only; omega)
              have g3 := kz.cellv ((hMt.row k (by omega)).cell (i := 0) (by omega)) (by have := hlo2 k (by omega); simp only; omega)
              simp only [By] at g3
              rw [HEq.out k (by omega)] at g3
              have g4 := hOz.top.frozen k
              have HOk : Hid (wz.ownsRow (w4.heap.size + 1) 5 1 (V' k) c (vals (D k) c)) := by
                have := hOz.own k (by omega)
                rw [if_neg (Nat.lt_irrefl _)] at this
                exact this
              have HVk : Hid (V' k = V k) := hVV.out k (Nat.le_refl _) (by omega)
              have hzt := hOz.top.lt
              obtain ⟨tb, hb0, hy0, hy1, hy2⟩ := info_parts info5
              have HOz : Hid (Ob _ _ _ _ _ _ _) := hOz
              have Hkz : Hid (Kp _ _ _) := kz
              have Htp : Hid (wz.rowIs _ _ _ _) := hOz.top
              have n1 : some w4.heap.size ≠ (V' k).ownBlock := fun e => by have := ownBlock_lt HOk.out e.symm; omega
              have n2 : some tp ≠ (V' k).ownBlock := fun e => by have := HLt.out k (by omega) _ (by rw [← HVk.out]; exact e.symm); omega
              have n3 : some (Bp k) ≠ (V' k).ownBlock := fun e => by have := HLt.out k (by omega) _ (by rw [← HVk.out]; exact e.symm); have := hlo2 k (by omega); omega
              have l2 : tp < wz.heap.size := World.block_lt_of_cell? _ _ g2
              have l3 : Bp k < wz.heap.size := World.block_lt_of_cell? _ _ g3
              have HS0 : Hid (∀ o, (wz.alloc o).drew.cell? ⟨w4.heap.size, k, none⟩ = some (V' k) ∧ (wz.alloc o).drew.cell? ⟨tp, k, none⟩ = some (.slice (some ⟨Bp k, 0, none⟩) 1 1) ∧ (wz.alloc o).drew.cell? ⟨Bp k, 0, none⟩ = some (.int .u8 ((D k c : Nat) : Int)) ∧ (wz.alloc o).drew.frozen? ⟨w4.heap.size, k, none⟩ = false) := fun o =>
                have kx := ((Kp.refl (fun _ => False) wz).alloc o).drew
                ⟨kx.cellv g1 id, kx.cellv g2 id, kx.cellv g3 id, (kx.row Htp.out id).frozen k⟩
              have HS6 : Hid (∀ o w6, ((wz.alloc o).drew).grownBy w6 (V' k).ownBlock → w6.cell? ⟨w4.heap.size, k, none⟩ = some (V' k) ∧ w6.cell? ⟨tp, k, none⟩ = some (.slice (some ⟨Bp k, 0, none⟩) 1 1) ∧ w6.cell? ⟨Bp k, 0, none⟩ = some (.int .u8 ((D k c : Nat) : Int)) ∧ w6.frozen? ⟨w4.heap.size, k, none⟩ = false) := fun o w6 hg =>
                have kx := ((Kp.refl (fun _ => False) wz).alloc o).drew
                have kg := grownBy_kp hg
                have t6 := kg.row (kx.row Htp.out id) (fun e => n1 e.symm)
                ⟨t6.cell (by omega), kg.cellv (kx.cellv g2 id) (fun e => n2 e.symm), kg.cellv (kx.cellv g3 id) (fun e => n3 e.symm), t6.frozen k⟩
              have HStep : Hid (∀ o g6 cap6 w6, w6.ownsRow (w4.heap.size + 1) 5 1 (.slice (some ⟨g6, 0, none⟩) (c + 1) cap6) (c + 1) (vals (D k) c ++ [.int .u8 ((D k c : Nat) : Int)]) → ((wz.alloc o).drew).grownBy w6 (V' k).ownBlock → ((V' k).ownBlock = some g6 ∨ g6 = wz.heap.size + 1) →
                  Kp (fun b => b < wq0.heap.size) w5 (w6.setCell ⟨w4.heap.size, k, none⟩ (.slice (some ⟨g6, 0, none⟩) (c + 1) cap6)) ∧
                  Ob w4 (w6.setCell ⟨w4.heap.size, k, none⟩ (.slice (some ⟨g6, 0, none⟩) (c + 1) cap6)) w4.heap.size K (fun r => if r < k + 1 then c + 1 else c) (fun r => if r = k then .slice (some ⟨g6, 0, none⟩) (c + 1) cap6 else V' r) D) := fun o g6 cap6 w6 ho hg ha => by
                have kx := ((Kp.refl (fun _ => False) wz).alloc o).drew
                have kg := grownBy_kp hg
                refine ⟨?_, ?_⟩
                · have k1 : Kp (fun b => b < wq0.heap.size) w5 w6 := (kz.trans kx (fun _ _ e => e.elim)).trans kg (fun b _ e => HLt.out k (by omega) b (by rw [← HVk.out]; exact e))
                  exact k1.setCell (fun _ => hO5t) _
                · have hc1 : (if k < k then c + 1 else c) = c := if_neg (Nat.lt_irrefl _)
                  have := hOz.step (k := k) (v' := .slice (some ⟨g6, 0, none⟩) (c + 1) cap6) (by omega) kx hg (by simp only [hc1]; exact ho) (fun b hb => by
                    simp only [Value.ownBlock, Option.some.injEq] at hb
                    rcases ha with h | h
                    · exact Or.inl (by rw [h, hb])
                    · exact Or.inr (by omega))
                  exact this.congrL (fun r _ => by
                    by_cases e : r = k
                    · rw [if_pos e, if_neg (by omega), if_pos (by omega)]
                    · rw [if_neg e]
                      by_cases h : r < k
                      · rw [if_pos h, if_pos (by omega)]
                      · rw [if_neg h, if_neg (by omega)])
              clear hOz kz hMt
              go_wp2
              go_region_law ((refine step_append_lies _ (by rfl) _ _ _ (by rfl) (w4.heap.size + 1) 5 tb (.int .u8 0) 1 1 Tryd.underlying30 hb0 hy0 hy1 hy2 rfl (by decide) (V' k) c (vals (D k) c) (by rfl) (ownsRow_keep HOk.out ((Kp.refl _ _).alloc _).drew) ⟨wz.heap.size, 0, none⟩ 1 1 [.int .u8 ((D k c : Nat) : Int)] (by rfl) rfl (cell_one_new _ _ _) (fun x hx => by simp at hx; subst hx; rfl) (by decide) (by unfold maxLen; omega) (by omega) (by simp; omega) (wz.heap.size + 1) (by simp) ?_; intro g6 cap6 w6 hown6 hgrow6 hat6 hlt6; obtain ⟨x1, x2, x3, x4⟩ := HS6.out _ _ hgrow6))
              all_goals
                obtain ⟨y1, y2⟩ := HStep.out _ _ _ _ hown6 hgrow6 hat6
                clear hown6 hgrow6 hat6 x1 x2 x3 x4 HStep HS0 HS6 g1 g2 g3 g4
                go_wp2
                go_roundg (K - (k + 1))
                case rel => exact ⟨k + 1, _, by omega, rfl, by go_num, y1, fun r h1 h2 => by rw [if_neg (by omega)]; exact hVV.out r (by omega) h2, y2⟩
                case measure => omega
            · have ek : K = k := by omega
              subst ek
              go_wp2
              go_roundg (n - (c + 1))
              case rel => exact ⟨c + 1, _, by omega, rfl, by go_num, hOz.congrL (fun r hr => by rw [if_pos hr])⟩
              case measure => omega
    · have ec : n = c := by omega
      subst ec
      have d1 := hOb.kept.cellv c1 id
      have d2 := hOb.kept.cellv c2 id
      have kk5 := kk4.trans hOb.kept (fun _ _ e => e)
      obtain ⟨q, hq1, hq2, hq3, hq4, hq5⟩ := hOb.mx (fun i j => by rw [HD.out]; exact prodTo_lt _ _ _ _ _) K
      simp only [Value.slice.injEq] at hq1
      obtain ⟨y1, y2, y3⟩ := hq1
      have HEn : Hid (Calls _ _ _ wr0 _) := refEncode_yesC K M n q wr0 hq2 hq3 hq4 h1 h3 (by omega) (by omega)
      rw [← y1, ← y3, hq5, ← HNe.out] at HEn
      clear hq2 hq3 hq4 hq5 y1 y2 y3 hOb
      go_wp2_with fail
      refine HEn.out.mono ?_
      rintro e w6 ⟨v6, rfl, k6, hm6⟩
      rw [HD.out] at hm6
      clear HEn
      go_wp2
      go_ret2
      exact ⟨v6, W, rfl, kk5.trans k6 (fun _ _ e => e), HE.out, hm6⟩
theorem refDecode_yes (K M : Nat) (s : Sh) (w : World) (hs : Rd w s) (hG : s.G = K + M) (h1 : 1 ≤ (K : Int)) (h3 : (M : Int) ≤ 255 - (K : Int)) (hal : alikeTo s.L (K + M) (K + M) = true) (hK : K ≤ (thereTo s.L (K + M)).length) (hn : (len0 s.L (K + M) : Int) ≤ 1000000) :
    Calls Tryd.prog 8 #[.agg #[.int .i64 K, .int .i64 M], .slice s.g (K + M) s.cap] w fun e w' =>
      ∃ v W, e = .returned (.tuple #[v, .int .i64 0]) ∧ Kp (fun _ => False) w w' ∧ El (fun r => gen K ((firstK s.L (K + M) K).getD r 0)) K K W ∧
        Mx w' v (K + M) (len0 s.L (K + M)) (enc K (fun j q => prodTo (right W K) (fun j q => s.M ((firstK s.L (K + M) K).getD j 0) q) K j q)) :=
  (refDecode_yesC K M s w hs hG h1 h3 hal hK hn).mono fun _ _ ⟨v, W, he, hk, hE, hm⟩ => ⟨v, W, he, hk, hE, hm.mx⟩
end Go.Proofs.YtbmhfclknilcoaaDoor
