/- The walk of the law StripeBack: of any shards, as many as the data, the blob is told. -/
import Derived.Test.YtmccmppijpcfbaaDoorS2
import Derived.Test.YtmccmppijpcfbaaDoorS3
import Derived.Test.YtmccmppijpcfbaaDoorMk
namespace Go.Proofs.YtmccmppijpcfbaaDoor
open Go.RowKit Go.Deep

set_option maxRecDepth 100000 in
set_option maxHeartbeats 3200000 in
theorem back_small (k m : Int) (pa : Option Addr) (ba oa la ca : Nat) (f : Nat → Nat) (mask : Int) (w : World) (hpa : ∀ k, k < la → pa = some ⟨ba, oa, none⟩) (hc : ∀ k, k < la → w.cell? ⟨ba, oa + k, none⟩ = some (.int .u8 ((f k : Nat) : Int))) (hf : ∀ k, f k < 256)
    (hla : (la : Int) ≤ 400) (hca : ((la : Nat) : Int) ≤ (ca : Int)) (hp : Pows w) :
    Calls Tryd.prog 6 #[.int .i64 k, .int .i64 m, .slice pa la ca, .int .u64 mask] w fun e w' => e = .returned (.bool true) ∧ Kp (fun _ => False) w w' := by
  obtain ⟨K, M, ⟨b1, b2, b3⟩, hcode⟩ := codeX k m
  have HC : Hid (∀ w, Calls _ _ _ w _) := hcode
  have HP : Hid (∀ k, k < la → pa = some ⟨ba, oa, none⟩) := hpa
  have HB : Hid (∀ k, k < la → w.cell? ⟨ba, oa + k, none⟩ = some (.int .u8 ((f k : Nat) : Int))) := hc
  have HF : Hid (∀ k, f k < 256) := hf
  obtain ⟨l1, l2⟩ := lenOf_bd (K := K) (size := la) (by omega) (by omega)
  clear hcode hpa hc hf
  go_enter Tryd.func6, Tryd.ntmps6
  go_wp2_with fail
  refine (HC.out _).mono ?_
  rintro e w1 ⟨rfl, k1⟩
  obtain ⟨wa, hwa, ka, za, q1, q2⟩ := code_alloc w1 K M
  have k1a := k1.trans ka (fun _ _ e => e)
  have HX : Hid (∀ c, Calls _ _ #[_, .slice _ _ c] wa _) := fun c => cut_yes K M la (.slice pa la c) f wa ⟨pa, ba, oa, c, rfl, HP.out, fun k hk => k1a.cellv (HB.out k hk) id, HF.out⟩ (by omega) (by omega) (by omega) (k1a.pows hp id)
  go_wp2_with fail
  rw [← hwa]
  clear hwa
  refine (HX.out _).mono ?_
  rintro e w2 ⟨t, B, rfl, k2, ht, hB, hM⟩
  clear HX HC
  have r1 := k2.cellv q1 id
  have r2 := k2.cellv q2 id
  have k12 := k1a.trans k2 (fun _ _ e => e)
  have hneq' : (((K + M : Nat) : Int) != (K : Int) + (M : Int)) = false := by rw [show ((K + M : Nat) : Int) = (K : Int) + (M : Int) from by simp]; exact bne_self_eq_false _
  have hneq : ((K : Int) + (M : Int) != (K : Int) + (M : Int)) = false := bne_self_eq_false _
  clear q1 q2
  obtain ⟨N, hN⟩ : ∃ x, x = lenOf K la := ⟨_, rfl⟩
  have HNE : Hid (lenOf K la = N) := hN.symm
  rw [← hN] at hM l1 l2
  clear hN
  have n1 : 1 ≤ N := by omega
  have hne : w1.heap.size ≠ t := by omega
  go_wp2
  clear hneq hneq'
  go_loopg [12, 43] (K + M) (fun gk v i wr => ∃ (r : Nat) (q : Nat → Bool), r ≤ K + M ∧ gk = K + M - r ∧ i = .int .i64 r ∧ v = .int .i64 (cnt q r : Int) ∧ K ≤ cnt q r + (K + M - r) ∧ (∀ j, r ≤ j → q j = true) ∧ Kp (fun b => b = t) w2 wr ∧ wr.rowIs t 22 (K + M) (mhead B N (fun _ => N) q))
  case atStart => exact ⟨0, fun _ => true, Nat.zero_le _, rfl, rfl, rfl, by omega, fun _ _ => rfl, Kp.refl _ _, hM.top.congr (fun i _ => by simp [mhead])⟩
  case round =>
    obtain ⟨r, q, hr, rfl, rfl, rfl, hcK, hq, hK, hT⟩ := hrel
    have s1 := hK.cellv r1 hne
    have s2 := hK.cellv r2 hne
    by_cases hlt : (r : Int) < (K : Int) + (M : Int)
    · have e1 := hT.cell (i := r) (by omega)
      have e2 := hT.frozen r
      have HQ : Hid (∀ j, r ≤ j → q j = true) := hq
      have hno : Hid (wr.rowIs t 22 (K + M) (mhead B N (fun _ => N) q) → (wr.setCell ⟨t, r, none⟩ (.slice none 0 0)).rowIs t 22 (K + M) (mhead B N (fun _ => N) (fun j => if j = r then false else q j))) := fun h => (h.set r _).congr (fun i _ => by
        unfold mhead
        by_cases e : i = r <;> simp [e])
      have hcn : Hid (cnt (fun j => if j = r then false else q j) (r + 1) = cnt q r) := by
        show _ = _
        rw [cnt_succ]
        simp only [if_true]
        rw [cnt_congr (q' := q) (fun j hj => by rw [if_neg (by omega)])]; rfl
      have hcy : Hid (cnt q (r + 1) = cnt q r + 1) := by
        show _ = _
        rw [cnt_succ, if_pos (hq r (Nat.le_refl _))]
      have hcl := cnt_le q r
      obtain ⟨c, hce⟩ : ∃ x, x = cnt q r := ⟨_, rfl⟩
      have HCE : Hid (cnt q r = c) := hce.symm
      rw [← hce] at hcK hcl
      rw [← hce]
      clear hce hq
      by_cases hbit : (bits .and .u64 (mask / 2 ^ r) 1 == 1) = true
      · go_wp2
        go_roundg (K + M - (r + 1))
        case rel => exact ⟨r + 1, q, by omega, rfl, by go_num, by rw [hcy.out, HCE.out]; simp, by rw [hcy.out, HCE.out]; omega, fun j hj => HQ.out j (by omega), hK, hT⟩
        case measure => omega
      · have hbit' : (bits .and .u64 (mask / 2 ^ r) 1 == 1) = false := by simpa using hbit
        clear hbit
        by_cases hle : (K : Int) + (M : Int) - (r : Int) ≤ (K : Int) - (c : Int)
        · have d3 : decide ((K : Int) + (M : Int) - (r : Int) ≤ (K : Int) - (c : Int)) = true := by simp; omega
          go_wp2
          go_roundg (K + M - (r + 1))
          case rel => exact ⟨r + 1, q, by omega, rfl, by go_num, by rw [hcy.out, HCE.out]; simp, by rw [hcy.out, HCE.out]; omega, fun j hj => HQ.out j (by omega), hK, hT⟩
          case measure => omega
        · have d3 : decide ((K : Int) + (M : Int) - (r : Int) ≤ (K : Int) - (c : Int)) = false := by simp; omega
          go_wp2
          go_roundg (K + M - (r + 1))
          case rel => exact ⟨r + 1, _, by omega, rfl, by go_num, by rw [hcn.out, HCE.out], by rw [hcn.out, HCE.out]; omega, fun j hj => by rw [if_neg (by omega)]; exact HQ.out j (by omega), hK.setCell (a := ⟨t, r, none⟩) (fun _ => rfl) _, hno.out hT⟩
          case measure => omega
    · have e : r = K + M := by omega
      subst e
      have hcc : K ≤ cnt q (K + M) := by omega
      have hRd : Rd wr (maskSh t (K + M) B N (fun _ => N) (enc K (cutAt K f la)) q) := mask_rd hT (fun i hi _ c hc => (hK.row (hM.row i hi) (hM.ne i hi)).cell hc) (fun i j => enc_lt _ _ _ _)
      have kw : Kp (fun _ => False) w wr := k12.trans hK (fun b hb e => by have := k1a.size; omega)
      have HJ : Hid (Calls _ _ _ wr _) := join_yes K M la _ wr hRd rfl (by omega) (by omega) (by omega) (fun r hr => by
        rw [HNE.out]
        show oddLen (mlen q N r) N = false
        unfold mlen oddLen
        by_cases h : q r = true <;> simp [h]) (mask_alike q n1 _) (by show K ≤ (thereTo (mlen q N) (K + M)).length; rw [mask_count q n1]; exact hcc) (by rw [HNE.out]; exact mask_len0 q n1 _ (by omega)) (kw.pows hp id)
      obtain ⟨c, hce⟩ : ∃ x, x = cnt q (K + M) := ⟨_, rfl⟩
      rw [← hce]
      clear hce hcK hcc hT hRd hq hM
      go_wp2_with fail
      refine HJ.out.mono ?_
      rintro e w3 ⟨b, W, rfl, k3, hE, hR⟩
      have HEq : Hid (∀ c1 c2, Calls _ _ #[.slice _ _ c1, .slice _ _ c2] w3 _) := fun c1 c2 => bytesEqual_same (some ⟨b, 0, none⟩) pa b 0 ba oa la c1 c2 _ f w3 (fun _ _ => rfl) HP.out (fun i hi => by rw [Nat.zero_add]; exact hR.cell hi) (fun i hi => k3.cellv (kw.cellv (HB.out i hi) id) id)
        (fun i hi => by
          rw [decM_enc (D := cutAt K f la) (cutAt_lt HF.out K la) hE (fun j _ => rfl) (fun r => r) (seatK K i), enc_data (cutAt_lt HF.out K la) (seatK_lt b1 i)]
          exact cutAt_seat K f hi)
      clear HJ hE hR
      go_wp2_with fail
      refine (HEq.out _ _).mono ?_
      rintro e w4 ⟨rfl, hw⟩
      obtain rfl := hw.symm
      go_wp2
      go_ret
      exact ⟨rfl, kw.trans k3 (fun _ _ e => e)⟩


set_option maxRecDepth 100000 in
set_option maxHeartbeats 3200000 in
theorem back_great (k m : Int) (pa : Option Addr) (ba oa lx ca : Nat) (f : Nat → Nat) (mask : Int) (w : World) (hpa : ∀ k, k < 400 → pa = some ⟨ba, oa, none⟩) (hc : ∀ k, k < 400 → w.cell? ⟨ba, oa + k, none⟩ = some (.int .u8 ((f k : Nat) : Int))) (hf : ∀ k, f k < 256)
    (hla : 400 < (lx : Int)) (hca : ((lx : Nat) : Int) ≤ (ca : Int)) (hp : Pows w) :
    Calls Tryd.prog 6 #[.int .i64 k, .int .i64 m, .slice pa lx ca, .int .u64 mask] w fun e w' => e = .returned (.bool true) ∧ Kp (fun _ => False) w w' := by
  obtain ⟨K, M, ⟨b1, b2, b3⟩, hcode⟩ := codeX k m
  have HC : Hid (∀ w, Calls _ _ _ w _) := hcode
  have HP : Hid (∀ k, k < 400 → pa = some ⟨ba, oa, none⟩) := hpa
  have HB : Hid (∀ k, k < 400 → w.cell? ⟨ba, oa + k, none⟩ = some (.int .u8 ((f k : Nat) : Int))) := hc
  have HF : Hid (∀ k, f k < 256) := hf
  obtain ⟨l1, l2⟩ := lenOf_bd (K := K) (size := 400) (by omega) (by omega)
  clear hcode hpa hc hf
  go_enter Tryd.func6, Tryd.ntmps6
  go_wp2_with fail
  refine (HC.out _).mono ?_
  rintro e w1 ⟨rfl, k1⟩
  obtain ⟨wa, hwa, ka, za, q1, q2⟩ := code_alloc w1 K M
  have k1a := k1.trans ka (fun _ _ e => e)
  have HX : Hid (∀ c, Calls _ _ #[_, .slice _ _ c] wa _) := fun c => cut_yes K M 400 (.slice pa 400 c) f wa ⟨pa, ba, oa, c, rfl, HP.out, fun k hk => k1a.cellv (HB.out k hk) id, HF.out⟩ (by omega) (by omega) (by omega) (k1a.pows hp id)
  go_wp2_with fail
  rw [← hwa]
  clear hwa
  refine (HX.out _).mono ?_
  rintro e w2 ⟨t, B, rfl, k2, ht, hB, hM⟩
  clear HX HC
  have r1 := k2.cellv q1 id
  have r2 := k2.cellv q2 id
  have k12 := k1a.trans k2 (fun _ _ e => e)
  have hneq' : (((K + M : Nat) : Int) != (K : Int) + (M : Int)) = false := by rw [show ((K + M : Nat) : Int) = (K : Int) + (M : Int) from by simp]; exact bne_self_eq_false _
  have hneq : ((K : Int) + (M : Int) != (K : Int) + (M : Int)) = false := bne_self_eq_false _
  clear q1 q2
  obtain ⟨N, hN⟩ : ∃ x, x = lenOf K 400 := ⟨_, rfl⟩
  have HNE : Hid (lenOf K 400 = N) := hN.symm
  rw [← hN] at hM l1 l2
  clear hN
  have n1 : 1 ≤ N := by omega
  have hne : w1.heap.size ≠ t := by omega
  go_wp2
  clear hneq hneq'
  go_loopg [12, 43] (K + M) (fun gk v i wr => ∃ (r : Nat) (q : Nat → Bool), r ≤ K + M ∧ gk = K + M - r ∧ i = .int .i64 r ∧ v = .int .i64 (cnt q r : Int) ∧ K ≤ cnt q r + (K + M - r) ∧ (∀ j, r ≤ j → q j = true) ∧ Kp (fun b => b = t) w2 wr ∧ wr.rowIs t 22 (K + M) (mhead B N (fun _ => N) q))
  case atStart => exact ⟨0, fun _ => true, Nat.zero_le _, rfl, rfl, rfl, by omega, fun _ _ => rfl, Kp.refl _ _, hM.top.congr (fun i _ => by simp [mhead])⟩
  case round =>
    obtain ⟨r, q, hr, rfl, rfl, rfl, hcK, hq, hK, hT⟩ := hrel
    have s1 := hK.cellv r1 hne
    have s2 := hK.cellv r2 hne
    by_cases hlt : (r : Int) < (K : Int) + (M : Int)
    · have e1 := hT.cell (i := r) (by omega)
      have e2 := hT.frozen r
      have HQ : Hid (∀ j, r ≤ j → q j = true) := hq
      have hno : Hid (wr.rowIs t 22 (K + M) (mhead B N (fun _ => N) q) → (wr.setCell ⟨t, r, none⟩ (.slice none 0 0)).rowIs t 22 (K + M) (mhead B N (fun _ => N) (fun j => if j = r then false else q j))) := fun h => (h.set r _).congr (fun i _ => by
        unfold mhead
        by_cases e : i = r <;> simp [e])
      have hcn : Hid (cnt (fun j => if j = r then false else q j) (r + 1) = cnt q r) := by
        show _ = _
        rw [cnt_succ]
        simp only [if_true]
        rw [cnt_congr (q' := q) (fun j hj => by rw [if_neg (by omega)])]; rfl
      have hcy : Hid (cnt q (r + 1) = cnt q r + 1) := by
        show _ = _
        rw [cnt_succ, if_pos (hq r (Nat.le_refl _))]
      have hcl := cnt_le q r
      obtain ⟨c, hce⟩ : ∃ x, x = cnt q r := ⟨_, rfl⟩
      have HCE : Hid (cnt q r = c) := hce.symm
      rw [← hce] at hcK hcl
      rw [← hce]
      clear hce hq
      by_cases hbit : (bits .and .u64 (mask / 2 ^ r) 1 == 1) = true
      · go_wp2
        go_roundg (K + M - (r + 1))
        case rel => exact ⟨r + 1, q, by omega, rfl, by go_num, by rw [hcy.out, HCE.out]; simp, by rw [hcy.out, HCE.out]; omega, fun j hj => HQ.out j (by omega), hK, hT⟩
        case measure => omega
      · have hbit' : (bits .and .u64 (mask / 2 ^ r) 1 == 1) = false := by simpa using hbit
        clear hbit
        by_cases hle : (K : Int) + (M : Int) - (r : Int) ≤ (K : Int) - (c : Int)
        · have d3 : decide ((K : Int) + (M : Int) - (r : Int) ≤ (K : Int) - (c : Int)) = true := by simp; omega
          go_wp2
          go_roundg (K + M - (r + 1))
          case rel => exact ⟨r + 1, q, by omega, rfl, by go_num, by rw [hcy.out, HCE.out]; simp, by rw [hcy.out, HCE.out]; omega, fun j hj => HQ.out j (by omega), hK, hT⟩
          case measure => omega
        · have d3 : decide ((K : Int) + (M : Int) - (r : Int) ≤ (K : Int) - (c : Int)) = false := by simp; omega
          go_wp2
          go_roundg (K + M - (r + 1))
          case rel => exact ⟨r + 1, _, by omega, rfl, by go_num, by rw [hcn.out, HCE.out], by rw [hcn.out, HCE.out]; omega, fun j hj => by rw [if_neg (by omega)]; exact HQ.out j (by omega), hK.setCell (a := ⟨t, r, none⟩) (fun _ => rfl) _, hno.out hT⟩
          case measure => omega
    · have e : r = K + M := by omega
      subst e
      have hcc : K ≤ cnt q (K + M) := by omega
      have hRd : Rd wr (maskSh t (K + M) B N (fun _ => N) (enc K (cutAt K f 400)) q) := mask_rd hT (fun i hi _ c hc => (hK.row (hM.row i hi) (hM.ne i hi)).cell hc) (fun i j => enc_lt _ _ _ _)
      have kw : Kp (fun _ => False) w wr := k12.trans hK (fun b hb e => by have := k1a.size; omega)
      have HJ : Hid (Calls _ _ _ wr _) := join_yes K M 400 _ wr hRd rfl (by omega) (by omega) (by omega) (fun r hr => by
        rw [HNE.out]
        show oddLen (mlen q N r) N = false
        unfold mlen oddLen
        by_cases h : q r = true <;> simp [h]) (mask_alike q n1 _) (by show K ≤ (thereTo (mlen q N) (K + M)).length; rw [mask_count q n1]; exact hcc) (by rw [HNE.out]; exact mask_len0 q n1 _ (by omega)) (kw.pows hp id)
      obtain ⟨c, hce⟩ : ∃ x, x = cnt q (K + M) := ⟨_, rfl⟩
      rw [← hce]
      clear hce hcK hcc hT hRd hq hM
      go_wp2_with fail
      refine HJ.out.mono ?_
      rintro e w3 ⟨b, W, rfl, k3, hE, hR⟩
      have HEq : Hid (∀ c1 c2, Calls _ _ #[.slice _ _ c1, .slice _ _ c2] w3 _) := fun c1 c2 => bytesEqual_same (some ⟨b, 0, none⟩) pa b 0 ba oa 400 c1 c2 _ f w3 (fun _ _ => rfl) HP.out (fun i hi => by rw [Nat.zero_add]; exact hR.cell hi) (fun i hi => k3.cellv (kw.cellv (HB.out i hi) id) id)
        (fun i hi => by
          rw [decM_enc (D := cutAt K f 400) (cutAt_lt HF.out K 400) hE (fun j _ => rfl) (fun r => r) (seatK K i), enc_data (cutAt_lt HF.out K 400) (seatK_lt b1 i)]
          exact cutAt_seat K f hi)
      clear HJ hE hR
      go_wp2_with fail
      refine (HEq.out _ _).mono ?_
      rintro e w4 ⟨rfl, hw⟩
      obtain rfl := hw.symm
      go_wp2
      go_ret
      exact ⟨rfl, kw.trans k3 (fun _ _ e => e)⟩


theorem back_walk (k m : Int) (a : Value) (la : Nat) (f : Nat → Nat) (mask : Int) (w : World) (ha : Bc w a la f) (hp : Pows w) :
    Calls Tryd.prog 6 #[.int .i64 k, .int .i64 m, a, .int .u64 mask] w fun e w' => e = .returned (.bool true) ∧ Kp (fun _ => False) w w' := by
  obtain ⟨pa, ba, oa, ca, rfl, h1, h2, h3, h4⟩ := ha
  by_cases h : (la : Int) ≤ 400
  · exact back_small k m pa ba oa la ca f mask w h1 h2 h3 h (by omega) hp
  · exact back_great k m pa ba oa la ca f mask w (fun k hk => h1 k (by omega)) (fun k hk => h2 k (by omega)) h3 (by omega) (by omega) hp
end Go.Proofs.YtmccmppijpcfbaaDoor
