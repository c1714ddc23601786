/- The walk of the law ReedFew: fewer are too few. -/
import Derived.Test.YtmccmppijpcfbaaDoorMr
namespace Go.Proofs.YtmccmppijpcfbaaDoor
open Go.RowKit Go.Deep

set_option maxRecDepth 100000 in
set_option maxHeartbeats 3200000 in
theorem few_walk (k m n : Int) (a : Value) (la : Nat) (f : Nat → Nat) (mask : Int) (w : World) (ha : Bs w a la f) (hp : Pows w) :
    Calls Tryd.prog 3 #[.int .i64 k, .int .i64 m, .int .i64 n, a, .int .u64 mask] w fun e w' => e = .returned (.bool true) ∧ Kp (fun _ => False) w w' := by
  obtain ⟨K, M, N, ⟨b1, b2, b3, n1, n2⟩, hmade⟩ := madeX k m n
  obtain ⟨D, hD', hcall⟩ := hmade a la f w ha hp
  have HD : Hid (Calls _ _ _ w _) := hcall
  clear hmade hcall hD'
  obtain ⟨pa, ba, oa, ca, rfl, hpa, hc, hf⟩ := ha
  clear hpa hc hf
  go_enter Tryd.func3, Tryd.ntmps3
  go_wp2_with fail
  refine HD.out.mono ?_
  rintro e w1 ⟨t, B, rfl, k1, ht, hB, hM⟩
  clear HD
  obtain ⟨wa, hwa, ka, za, q1, q2⟩ := code_alloc w1 K M
  have k1a := k1.trans ka (fun _ _ e => e)
  have hMa := hM.keep ka id (fun _ _ => id)
  have htl := hM.top.lt
  have hnn1 := not_nil ⟨t, 0, none⟩ (K + M) (K + M)
  go_wp2
  rw [← hwa]
  clear hwa hnn1 hM
  go_loopg [13, 31] (K + M) (fun gk v i wr => ∃ (r : Nat) (q : Nat → Bool), r ≤ K + M ∧ gk = K + M - r ∧ i = .int .i64 r ∧ v = .int .i64 (cnt q r : Int) ∧ cnt q r ≤ K - 1 ∧ (∀ j, r ≤ j → q j = true) ∧ Kp (fun b => b = t) wa wr ∧ wr.rowIs t 22 (K + M) (mhead B N (fun _ => N) q))
  case atStart => exact ⟨0, fun _ => true, Nat.zero_le _, rfl, rfl, rfl, Nat.zero_le _, fun _ _ => rfl, Kp.refl _ _, hMa.top.congr (fun i _ => by simp [mhead])⟩
  case round =>
    obtain ⟨r, q, hr, rfl, rfl, rfl, hc, hq, hK, hT⟩ := hrel
    have s1 := hK.cellv q1 (by show w1.heap.size ≠ t; omega)
    have s2 := hK.cellv q2 (by show w1.heap.size ≠ t; omega)
    by_cases hlt : (r : Int) < (K : Int) + (M : Int)
    · have e1 := hT.cell (i := r) (by omega)
      have e2 := hT.frozen r
      have HQ : Hid (∀ j, r ≤ j → q j = true) := hq
      have hno : Hid (wr.rowIs t 22 (K + M) (mhead B N (fun _ => N) q) → (wr.setCell ⟨t, r, none⟩ (.slice none 0 0)).rowIs t 22 (K + M) (mhead B N (fun _ => N) (fun j => if j = r then false else q j))) := fun h => (h.set r _).congr (fun i _ => by
        unfold mhead
        by_cases e : i = r <;> simp [e])
      have hcn : Hid (cnt (fun j => if j = r then false else q j) (r + 1) = cnt q r) := by
        show _ = _
        rw [cnt_succ]
        simp only [if_true]
        rw [cnt_congr (q' := q) (fun j hj => by rw [if_neg (by omega)])]; rfl
      have hcy : Hid (cnt q (r + 1) = cnt q r + 1) := by
        show _ = _
        rw [cnt_succ, if_pos (hq r (Nat.le_refl _))]
      obtain ⟨c, hce⟩ : ∃ x, x = cnt q r := ⟨_, rfl⟩
      have HCE : Hid (cnt q r = c) := hce.symm
      rw [← hce] at hc
      rw [← hce]
      clear hce hq
      by_cases hbit : (bits .and .u64 (mask / 2 ^ r) 1 == 0) = true
      · go_wp2
        go_roundg (K + M - (r + 1))
        case rel => exact ⟨r + 1, _, by omega, rfl, by go_num, by rw [hcn.out, HCE.out], by rw [hcn.out, HCE.out]; omega, fun j hj => by rw [if_neg (by omega)]; exact HQ.out j (by omega), hK.setCell (a := ⟨t, r, none⟩) (fun _ => rfl) _, hno.out hT⟩
        case measure => omega
      · have hbit' : (bits .and .u64 (mask / 2 ^ r) 1 == 0) = false := by simpa using hbit
        clear hbit
        by_cases hfull : c = K - 1
        · have d1 : ((c : Int) == (K : Int) - 1) = true := by rw [hfull]; exact beq_iff_eq.2 (by omega)
          have HFu : Hid (c = K - 1) := hfull
          clear hfull
          go_wp2
          go_roundg (K + M - (r + 1))
          case rel => exact ⟨r + 1, _, by omega, rfl, by go_num, by rw [hcn.out, HCE.out], by rw [hcn.out, HCE.out]; omega, fun j hj => by rw [if_neg (by omega)]; exact HQ.out j (by omega), hK.setCell (a := ⟨t, r, none⟩) (fun _ => rfl) _, hno.out hT⟩
          case measure => omega
        · have d1 : ((c : Int) == (K : Int) - 1) = false := beq_eq_false_iff_ne.2 (by omega)
          have hc2 : (c : Int) ≤ 12 := by omega
          go_wp2
          go_roundg (K + M - (r + 1))
          case rel => exact ⟨r + 1, q, by omega, rfl, by go_num, by rw [hcy.out, HCE.out]; simp, by rw [hcy.out, HCE.out]; omega, fun j hj => HQ.out j (by omega), hK, hT⟩
          case measure => omega
    · have e : r = K + M := by omega
      subst e
      have hRd : Rd wr (maskSh t (K + M) B N (fun _ => N) (enc K D) q) := mask_rd hT (fun i hi _ c hc => (hK.row (hMa.row i hi) (hMa.ne i hi)).cell hc) (fun i j => enc_lt _ _ _ _)
      have kw : Kp (fun _ => False) w wr := k1a.trans hK (fun b hb e => by omega)
      have hln : ((len0 (mlen q N) (K + M) : Nat) : Int) ≤ 1000000 := by have := len0_le q N (K + M); omega
      have HDc : Hid (Calls _ _ _ wr _) := decode_any K M _ wr hRd rfl (by omega) (by omega) (kw.pows hp id) hln
      have HFew : Hid (cnt q (K + M) < K) := by show _ < _; omega
      have HRd : Hid (Rd wr (maskSh t (K + M) B N (fun _ => N) (enc K D) q)) := hRd
      have hKcap : Hid ((thereTo (mlen q N) K).length ≠ K) := by
        show _ ≠ _
        have := cnt_mono q K M
        rw [mask_count q n1]; omega
      clear hT hq hRd
      obtain ⟨c, hce⟩ : ∃ x, x = cnt q (K + M) := ⟨_, rfl⟩
      rw [← hce] at hc
      rw [← hce]
      clear hce
      go_wp2_with fail
      refine HDc.out.mono ?_
      rw [mask_alike _ n1, mask_count _ n1]
      rintro e w2 ⟨k2, ⟨hal, rfl⟩ | ⟨_, _, rfl⟩ | ⟨_, hK2, _⟩⟩
      · cases hal
      · have u1 := k2.cellv s1 id
        have u2 := k2.cellv s2 id
        have kw2 := kw.trans k2 (fun _ _ e => e)
        have HRp : Hid (Calls _ _ _ w2 _) := repair_any K M 0 _ w2 (HRd.out.keep k2) rfl (by omega) (by omega) (by omega) (kw2.pows hp id) hln
        clear HDc s1 s2
        go_wp2_with fail
        refine HRp.out.mono ?_
        rw [mask_alike _ n1, mask_count _ n1]
        rintro e w3 ⟨k3, ⟨hal, rfl⟩ | ⟨_, _, rfl⟩ | ⟨_, hK3, _⟩⟩
        · cases hal
        · have y1 := k3.cellv u1 id
          have y2 := k3.cellv u2 id
          have kw3 := kw2.trans k3 (fun _ _ e => e)
          have HRt : Hid (Calls _ _ _ w3 _) := right_missing K M _ w3 ((HRd.out.keep k2).keep k3) rfl (by omega) (by omega) (by show (K : Int) ≤ ((K + M : Nat) : Int); omega) (Or.inl hKcap.out)
          clear HRp u1 u2
          go_wp2_with fail
          refine HRt.out.mono ?_
          rintro e w4 ⟨rfl, k4⟩
          go_wp2
          go_ret
          exact ⟨rfl, kw3.trans k4 (fun _ _ e => e)⟩
        · have := HFew.out; omega
      · have := HFew.out; omega
end Go.Proofs.YtmccmppijpcfbaaDoor
