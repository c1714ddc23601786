/- The walk of the law StripeJoins: the blob of some shards, or the error, of anything; they stay. -/
import Derived.Test.YtbmhfclknilcoaaDoorJn
import Derived.Deep.QuietTactic
import Derived.BigQuiet
namespace Go.Proofs.YtbmhfclknilcoaaDoor
open Go.RowKit Go.Deep Bl

/-- both Joins, side by side -/
theorem joinU (K M size : Int) (s : Sh) (hK : K ≤ 40) : ∃ (c : Int) (n : Nat) (f : Nat → Nat), ∀ (s' : Sh) (w : World), s'.G = s.G → s'.L = s.L → s'.M = s.M → Rd w s' →
    (Pows w → Calls Tryd.prog 17 #[.agg #[.int .i64 K, .int .i64 M], .int .i64 size, .slice s'.g s'.G s'.cap] w fun e w' => ∃ v, e = .returned (.tuple #[v, .int .i64 c]) ∧ Kp (fun _ => False) w w' ∧ Ba w' v c n f) ∧
    (Calls Tryd.prog 18 #[.agg #[.int .i64 K, .int .i64 M], .int .i64 size, .slice s'.g s'.G s'.cap] w fun e w' => ∃ v, e = .returned (.tuple #[v, .int .i64 c]) ∧ Kp (fun _ => False) w w' ∧ Ba w' v c n f) := by
  have hw : 1 ≤ K → wrap64 (255 - K) = 255 - K := fun h => by unfold wrap64; omega
  by_cases h : Jd K M size s.G
  · obtain ⟨⟨⟨h1, h2, h3⟩, h4, h5⟩, h6⟩ := h
    obtain ⟨k, rfl⟩ : ∃ k : Nat, K = (k : Int) := ⟨K.toNat, by omega⟩
    obtain ⟨m, rfl⟩ : ∃ m : Nat, M = (m : Int) := ⟨M.toNat, by omega⟩
    obtain ⟨z, rfl⟩ : ∃ z : Nat, size = (z : Int) := ⟨size.toNat, by omega⟩
    have hG : s.G = k + m := by omega
    by_cases ho : ∃ r, r < k + m ∧ oddLen (s.L r) (lenOf k z) = true
    · refine ⟨1, 0, fun _ => 0, fun s' w e1 e2 e3 hs => ?_⟩
      rw [e1, hG]
      refine ⟨fun hp => (join_no k m z s' w hs (e1.trans hG) h1 h3 h5 1 (Or.inl ⟨by rw [e2]; exact ho, rfl⟩) (Or.inr rfl) hp).mono ?_, (refJoin_no k m z s' w hs (e1.trans hG) h1 h3 h5 1 (Or.inl ⟨by rw [e2]; exact ho, rfl⟩)).mono ?_⟩
      · rintro e w' ⟨rfl, hKp⟩; exact ⟨_, rfl, hKp, Or.inr ⟨by omega, rfl⟩⟩
      · rintro e w' ⟨rfl, hKp⟩; exact ⟨_, rfl, hKp, Or.inr ⟨by omega, rfl⟩⟩
    · have hno : ∀ r, r < k + m → oddLen (s.L r) (lenOf k z) = false := fun r hr => by
        cases hb : oddLen (s.L r) (lenOf k z) with
        | false => rfl
        | true => exact absurd ⟨r, hr, hb⟩ ho
      have hLr : ∀ r, r < k + m → s.L r = 0 ∨ s.L r = lenOf k z := fun r hr => by
        have := hno r hr
        simp [oddLen] at this
        omega
      obtain ⟨l1, l2⟩ := lenOf_bd (K := k) (size := z) (by omega) (by omega)
      have h0m : (thereTo s.L (k + m)).headD 0 < k + m := by
        cases hx : thereTo s.L (k + m) with
        | nil => show 0 < k + m; omega
        | cons a b => exact (thereTo_mem.1 (show a ∈ thereTo s.L (k + m) by rw [hx]; simp)).1
      have hl0 : len0 s.L (k + m) = 0 ∨ len0 s.L (k + m) = lenOf k z := hLr _ h0m
      have hal : alikeTo s.L (k + m) (k + m) = true := by
        refine decide_eq_true fun r hr => ?_
        by_cases e0 : s.L r = 0
        · exact Or.inl e0
        · right
          have hrN : s.L r = lenOf k z := by have := hLr r hr; omega
          have hmem : r ∈ thereTo s.L (k + m) := thereTo_mem.2 ⟨hr, by omega⟩
          cases hx : thereTo s.L (k + m) with
          | nil => rw [hx] at hmem; cases hmem
          | cons a b =>
            have ha := thereTo_mem.1 (show a ∈ thereTo s.L (k + m) by rw [hx]; simp)
            have haN : s.L a = lenOf k z := by have := hLr a ha.1; omega
            unfold len0; rw [hx]
            show s.L r = s.L a
            omega
      by_cases hen : k ≤ (thereTo s.L (k + m)).length
      · have hln : len0 s.L (k + m) = lenOf k z := by
          cases hx : thereTo s.L (k + m) with
          | nil => rw [hx] at hen; simp at hen; omega
          | cons a b =>
            have ha := thereTo_mem.1 (show a ∈ thereTo s.L (k + m) by rw [hx]; simp)
            unfold len0; rw [hx]
            show s.L a = _
            have := hLr a ha.1; omega
        obtain ⟨W0, hW0⟩ : ∃ W0, ∀ W, El (fun r => gen k ((firstK s.L (k + m) k).getD r 0)) k k W → W = W0 := by
          by_cases hE : ∃ W, El (fun r => gen k ((firstK s.L (k + m) k).getD r 0)) k k W
          · obtain ⟨W0, h0⟩ := hE
            exact ⟨W0, fun W h => h.unique h0⟩
          · exact ⟨fun _ _ => 0, fun W h => absurd ⟨W, h⟩ hE⟩
        refine ⟨0, z, fun i => enc k (fun j q => prodTo (right W0 k) (fun j q => s.M ((firstK s.L (k + m) k).getD j 0) q) k j q) (seatK k i) (seatAt k i), fun s' w e1 e2 e3 hs => ?_⟩
        rw [e1, hG]
        refine ⟨fun hp => (join_yes k m z s' w hs (e1.trans hG) h1 h3 h5 (by rw [e2]; exact hno) (by rw [e2]; exact hal) (by rw [e2]; exact hen) (by rw [e2]; exact hln) hp).mono ?_, (refJoin_yes k m z s' w hs (e1.trans hG) h1 h3 h5 (by rw [e2]; exact hno) (by rw [e2]; exact hal) (by rw [e2]; exact hen) (by rw [e2]; exact hln)).mono ?_⟩
        · rw [e2, e3]
          rintro e w' ⟨b, W, rfl, hKp, hE, hR⟩
          have hb : ∀ i j, s.M i j < 256 := fun i j => by rw [← e3]; exact hs.byte i j
          rw [decM_fun hb hE] at hR
          obtain rfl := hW0 W hE
          refine ⟨_, rfl, hKp, Or.inl ⟨rfl, _, b, 0, _, rfl, fun _ _ => rfl, fun p hp' => ?_⟩⟩
          rw [Nat.zero_add]
          exact hR.cell hp'
        · rw [e2, e3]
          rintro e w' ⟨p, c, W, rfl, hKp, hE, F, hR, hF⟩
          obtain rfl := hW0 W hE
          by_cases hz : 0 < z
          · obtain ⟨b, o, rfl, hc⟩ := hR.pt hz
            exact ⟨_, rfl, hKp, Or.inl ⟨rfl, _, b, o, _, rfl, fun _ _ => rfl, fun i hi => by rw [hc i hi, hF i hi]⟩⟩
          · exact ⟨_, rfl, hKp, Or.inl ⟨rfl, p, 0, 0, _, rfl, fun i hi => absurd hi (by omega), fun i hi => absurd hi (by omega)⟩⟩
      · refine ⟨30, 0, fun _ => 0, fun s' w e1 e2 e3 hs => ?_⟩
        rw [e1, hG]
        refine ⟨fun hp => (join_no k m z s' w hs (e1.trans hG) h1 h3 h5 30 (Or.inr ⟨by rw [e2]; exact hno, by rw [e2]; exact hal, by rw [e2]; omega, rfl⟩) (Or.inl (by rw [e2]; omega)) hp).mono ?_, (refJoin_no k m z s' w hs (e1.trans hG) h1 h3 h5 30 (Or.inr ⟨by rw [e2]; exact hno, by rw [e2]; exact hal, by rw [e2]; omega, rfl⟩)).mono ?_⟩
        · rintro e w' ⟨rfl, hKp⟩; exact ⟨_, rfl, hKp, Or.inr ⟨by omega, rfl⟩⟩
        · rintro e w' ⟨rfl, hKp⟩; exact ⟨_, rfl, hKp, Or.inr ⟨by omega, rfl⟩⟩
  · refine ⟨1, 0, fun _ => 0, fun s' w e1 e2 e3 hs => ?_⟩
    refine ⟨fun _ => (join_bad K M size s'.g s'.G s'.cap w hw (by rw [e1]; exact h)).mono ?_, (refJoin_bad K M size s'.g s'.G s'.cap w (by rw [e1]; exact h)).mono ?_⟩
    · rintro e w' ⟨rfl, hKp⟩; exact ⟨_, rfl, hKp, Or.inr ⟨by omega, rfl⟩⟩
    · rintro e w' ⟨rfl, hKp⟩; exact ⟨_, rfl, hKp, Or.inr ⟨by omega, rfl⟩⟩
theorem frozen_alloc_new (w : World) (cs : Array Value) (t : TypeId) (j : Nat) : (w.alloc (.cells cs t)).frozen? ⟨w.heap.size, j, none⟩ = false := by
  have hh : (w.alloc (.cells cs t)).heap[w.heap.size]? = _ := heap_alloc_new w _
  exact frozen_of_row _ _ _ cs t hh
theorem len16 : lenOf 2 20 = 16 := by decide

set_option maxRecDepth 100000 in
set_option maxHeartbeats 3200000 in
theorem joins_walk (K M size : Int) (v : Value) (s : Sh) (w : World) (h : Tw w v s) (hp : Pows w) :
    Calls Tryd.prog 4 #[.agg #[.int .i64 K, .int .i64 M], .int .i64 size, v] w fun e w' => e = .returned (.bool true) ∧ Kp (fun _ => False) w w' := by
  obtain rfl := h.val
  have HTx : Hid (∀ w', Kp (fun _ => False) w w' → Calls _ _ _ w' _) := fun w' k' => texts_any s w' (h.rd.keep k') h.big (fun r hr => h.long r hr)
  have HS0 : Hid (Rd w s) := h.rd
  have hGb : (s.G : Int) ≤ 1000000000000000 := by have := h.big; omega
  clear h
  go_enter Tryd.func4, Tryd.ntmps4
  by_cases hk : 40 < K
  case' pos =>
    go_wp2_with fail
    obtain ⟨K', hK'⟩ : ∃ x, x = K % 40 := ⟨_, rfl⟩
    obtain ⟨M', hM'⟩ : ∃ x, x = M.tmod 40 := ⟨_, rfl⟩
    rw [← hK', ← hM']
    have hKb : K' ≤ 40 := by omega
    obtain ⟨wc, hwc, kc, _, y1, y2⟩ := code_alloc w K' M'
    rw [← hwc]
    clear hwc hK' hM' hk
  case' neg =>
    by_cases hm : 40 < M
    case' pos =>
      have hk' : K ≤ 40 := by omega
      clear hk
      go_wp2_with fail
      obtain ⟨K', hK'⟩ : ∃ x, x = K.tmod 40 := ⟨_, rfl⟩
      obtain ⟨M', hM'⟩ : ∃ x, x = M % 40 := ⟨_, rfl⟩
      rw [← hK', ← hM']
      have hKb : K' ≤ 40 := by rw [hK']; have := Int.tmod_lt_of_pos K (show (0 : Int) < 40 by omega); omega
      obtain ⟨wc, hwc, kc, _, y1, y2⟩ := code_alloc w K' M'
      rw [← hwc]
      clear hwc hK' hM' hk' hm
    case' neg =>
      have hk' : K ≤ 40 := by omega
      have hm' : M ≤ 40 := by omega
      clear hk hm
      go_wp2_with fail
      obtain ⟨K', hK'⟩ : ∃ x, x = K := ⟨_, rfl⟩
      obtain ⟨M', hM'⟩ : ∃ x, x = M := ⟨_, rfl⟩
      subst hK' hM'
      have hKb : K' ≤ 40 := by omega
      obtain ⟨wc, hwc, kc, _, y1, y2⟩ := code_alloc w K' M'
      rw [← hwc]
      clear hwc hk' hm'
  all_goals
    obtain ⟨c, n, f, hU⟩ := joinU K' M' size s hKb
    have HU : Hid _ := hU
    have q3 : (c == c) = true := beq_self_eq_true _
    clear hU
    refine (HTx.out _ kc).mono ?_
    rintro e w2 ⟨g2, cap2, gb2, A2, C2, RB2, rfl, k2, hO2⟩
    have kk2 := kc.trans k2 (fun _ _ e => e)
    have b1 := k2.cellv y1 id
    have b2 := k2.cellv y2 id
    have H2 : Hid (Rd w2 _) := hO2.rd
    clear HTx hO2 y1 y2
    go_wp2_with fail
    refine ((HU.out ⟨g2, s.G, cap2, gb2, 0, A2, s.L, C2, RB2, fun _ => 0, s.M⟩ w2 rfl rfl rfl H2.out).1 (kk2.pows hp id)).mono ?_
    rintro e w3 ⟨v3, rfl, k3, hA3⟩
    have kk3 := kk2.trans k3 (fun _ _ e => e)
    have c1 := k3.cellv b1 id
    have c2 := k3.cellv b2 id
    clear b1 b2
    go_wp2_with fail
    refine ((HU.out s w3 rfl rfl rfl (HS0.out.keep kk3)).2).mono ?_
    rintro e w4 ⟨v4, rfl, k4, hA4⟩
    have kk4 := kk3.trans k4 (fun _ _ e => e)
    have HEq : Hid (Calls _ _ _ w4 _) := (hA3.keep k4).same hA4
    have HSa : Hid (Calls _ _ _ w4 _) := sameTexts_any ⟨g2, s.G, cap2, gb2, 0, A2, s.L, C2, RB2, fun _ => 0, s.M⟩ s w4 ((H2.out.keep k3).keep k4) (HS0.out.keep kk4) (by exact hGb) true (fun _ => ⟨rfl, fun r _ => ⟨rfl, fun c _ => rfl⟩⟩) (fun h => by cases h)
    have HL16 : Hid (Calls _ _ _ w4 _) := length_yes 2 0 20 w4 (by omega) (by omega) (by omega)
    rw [len16] at HL16
    clear HU c1 c2 hA3 hA4
    go_wp2_with (first
      | (go_at_call 12; refine HEq.out.mono ?_; rintro e w' ⟨rfl, rfl⟩)
      | (go_at_call 11; refine HSa.out.mono ?_; rintro e w' ⟨rfl, rfl⟩)
      | (go_at_call 19; refine HL16.out.mono ?_; rintro e w6 ⟨rfl, k6⟩))
    go_ret
    exact ⟨rfl, kk4.trans k6 (fun _ _ e => e)⟩
end Go.Proofs.YtbmhfclknilcoaaDoor
