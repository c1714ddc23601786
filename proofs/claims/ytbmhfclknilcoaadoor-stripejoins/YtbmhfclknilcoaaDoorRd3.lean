/- Repair, Same and Right of the reference; Right of the program; what both sides answer of whatever shards. -/
import Derived.Test.YtbmhfclknilcoaaDoorRd2
namespace Go.Proofs.YtbmhfclknilcoaaDoor
open Go.RowKit Go.Deep

set_option maxRecDepth 100000 in
set_option maxHeartbeats 800000 in
theorem refRepair_out (K M : Nat) (i : Int) (s : Sh) (w : World) (hs : Rd w s) (hG : s.G = K + M) (h1 : 1 ≤ (K : Int)) (h3 : (M : Int) ≤ 255 - (K : Int)) (hi : ¬ (0 ≤ i ∧ i < (K : Int) + (M : Int))) :
    Calls Tryd.prog 10 #[.agg #[.int .i64 K, .int .i64 M], .slice s.g (K + M) s.cap, .int .i64 i] w fun e w' => e = .returned (.tuple #[.slice none 0 0, .int .i64 1]) ∧ Kp (fun _ => False) w w' := by
  obtain ⟨wa, hwa, ka, za, q1, q2⟩ := code_alloc w K M
  have HC : Hid (Calls _ _ _ wa _) := refSome_yes K M s wa (hs.keep ka) hG h1 h3
  clear hs hG
  go_enter Tryd.func10, Tryd.ntmps10
  go_wp2_with fail
  rw [← hwa]
  refine HC.out.mono ?_
  rintro e w1 ⟨k1, ⟨hal, rfl⟩ | ⟨hal, v, rfl, hSel⟩⟩
  · clear hwa q1 q2 HC hal
    go_wp2
    go_ret2
    exact ⟨rfl, ka.trans k1 (fun _ _ e => e)⟩
  · have r1 := k1.cellv q1 id
    have r2 := k1.cellv q2 id
    clear hwa q1 q2 HC hal hSel
    by_cases h5 : i < 0
    · have d1 : decide (i < 0) = true := by simp; omega
      go_wp2
      go_ret2
      exact ⟨rfl, ka.trans k1 (fun _ _ e => e)⟩
    · have d1 : decide (i < 0) = false := by simp; omega
      have d2 : decide ((K : Int) + (M : Int) ≤ i) = true := by simp; omega
      clear hi
      go_wp2
      go_ret2
      exact ⟨rfl, ka.trans k1 (fun _ _ e => e)⟩

set_option maxRecDepth 100000 in
set_option maxHeartbeats 800000 in
theorem refRepair_no (K M i : Nat) (s : Sh) (w : World) (hs : Rd w s) (hG : s.G = K + M) (h1 : 1 ≤ (K : Int)) (h3 : (M : Int) ≤ 255 - (K : Int)) (hi : (i : Int) < (K : Int) + (M : Int)) (c : Int)
    (h : (alikeTo s.L (K + M) (K + M) = false ∧ c = 1) ∨ (alikeTo s.L (K + M) (K + M) = true ∧ (thereTo s.L (K + M)).length < K ∧ c = 30)) :
    Calls Tryd.prog 10 #[.agg #[.int .i64 K, .int .i64 M], .slice s.g (K + M) s.cap, .int .i64 i] w fun e w' => e = .returned (.tuple #[.slice none 0 0, .int .i64 c]) ∧ Kp (fun _ => False) w w' := by
  obtain ⟨wa, hwa, ka, za, q1, q2⟩ := code_alloc w K M
  have HC : Hid (Calls _ _ _ wa _) := refSome_yes K M s wa (hs.keep ka) hG h1 h3
  have HD : Hid (∀ w', Kp (fun _ => False) w w' → Calls _ _ _ w' _) := fun w' k' => refDecode_no K M s w' (hs.keep k') hG h1 h3 c h
  have HH : Hid (_ ∨ _) := h
  have d2 : decide ((K : Int) + (M : Int) ≤ (i : Int)) = false := by simp; omega
  have d3 : (c != 0) = true := by rcases h with ⟨_, rfl⟩ | ⟨_, _, rfl⟩ <;> rfl
  clear h hs hG
  go_enter Tryd.func10, Tryd.ntmps10
  go_wp2_with fail
  rw [← hwa]
  refine HC.out.mono ?_
  rintro e w1 ⟨k1, ⟨hal, rfl⟩ | ⟨hal, v, rfl, hSel⟩⟩
  · rcases HH.out with ⟨_, rfl⟩ | ⟨h2, _⟩
    · clear hwa q1 q2 HC hal HH
      go_wp2
      go_ret2
      exact ⟨rfl, ka.trans k1 (fun _ _ e => e)⟩
    · rw [hal] at h2; cases h2
  · have r1 := k1.cellv q1 id
    have r2 := k1.cellv q2 id
    have kk := ka.trans k1 (fun _ _ e => e)
    clear hwa q1 q2 HC hal hSel HH
    go_wp2_with fail
    refine (HD.out _ kk).mono ?_
    rintro e w2 ⟨rfl, k2⟩
    clear HD
    go_wp2
    go_ret2
    exact ⟨rfl, kk.trans k2 (fun _ _ e => e)⟩

set_option maxRecDepth 100000 in
set_option maxHeartbeats 800000 in
theorem refRepair_yes (K M i : Nat) (s : Sh) (w : World) (hs : Rd w s) (hG : s.G = K + M) (h1 : 1 ≤ (K : Int)) (h3 : (M : Int) ≤ 255 - (K : Int)) (hi : (i : Int) < (K : Int) + (M : Int)) (hal : alikeTo s.L (K + M) (K + M) = true) (hK : K ≤ (thereTo s.L (K + M)).length) (hn : (len0 s.L (K + M) : Int) ≤ 1000000) :
    Calls Tryd.prog 10 #[.agg #[.int .i64 K, .int .i64 M], .slice s.g (K + M) s.cap, .int .i64 i] w fun e w' =>
      ∃ q W, e = .returned (.tuple #[.slice (q.A i) (len0 s.L (K + M)) (q.C i), .int .i64 0]) ∧ Kp (fun _ => False) w w' ∧ El (fun r => gen K ((firstK s.L (K + M) K).getD r 0)) K K W ∧ Rd w' q ∧ i < q.G ∧ q.L i = len0 s.L (K + M) ∧
        q.M = enc K (fun j q => prodTo (right W K) (fun j q => s.M ((firstK s.L (K + M) K).getD j 0) q) K j q) := by
  obtain ⟨wa, hwa, ka, za, q1, q2⟩ := code_alloc w K M
  have HC : Hid (Calls _ _ _ wa _) := refSome_yes K M s wa (hs.keep ka) hG h1 h3
  have HD : Hid (∀ w', Kp (fun _ => False) w w' → Calls _ _ _ w' _) := fun w' k' => refDecode_yes K M s w' (hs.keep k') hG h1 h3 hal hK hn
  have HA : Hid (alikeTo s.L (K + M) (K + M) = true) := hal
  have d2 : decide ((K : Int) + (M : Int) ≤ (i : Int)) = false := by simp; omega
  obtain ⟨n, hne⟩ : ∃ n, n = len0 s.L (K + M) := ⟨_, rfl⟩
  rw [← hne] at HD ⊢
  clear hs hG hal hK hn hne
  go_enter Tryd.func10, Tryd.ntmps10
  go_wp2_with fail
  rw [← hwa]
  refine HC.out.mono ?_
  rintro e w1 ⟨k1, ⟨hal, rfl⟩ | ⟨hal, v, rfl, hSel⟩⟩
  · rw [HA.out] at hal; cases hal
  · have r1 := k1.cellv q1 id
    have r2 := k1.cellv q2 id
    have kk := ka.trans k1 (fun _ _ e => e)
    clear hwa q1 q2 HC hal hSel HA
    go_wp2_with fail
    refine (HD.out _ kk).mono ?_
    rintro e w2 ⟨v, W, rfl, k2, hE, hMx⟩
    obtain ⟨q, rfl, hq, hqG, hqL, hqM⟩ := hMx
    have c0 := hq.hd i (by omega)
    rw [hqL i (by omega)] at c0
    have hg := hq.at0 (by omega)
    have hiG : (i : Int) < (q.G : Int) := by omega
    have HE : Hid (El _ _ _ W) := hE
    have HQ : Hid (Rd w2 q ∧ i < q.G ∧ q.L i = n ∧ q.M = _) := ⟨hq, by omega, hqL i (by omega), hqM⟩
    rw [hg]
    clear HD hE hq hqG hqL hqM hg
    go_wp2
    go_ret2
    exact ⟨q, W, rfl, kk.trans k2 (fun _ _ e => e), HE.out, HQ.out.1, HQ.out.2.1, HQ.out.2.2.1, HQ.out.2.2.2⟩

set_option maxRecDepth 100000 in
set_option maxHeartbeats 800000 in
theorem refSame_any (s t : Sh) (w : World) (hs : Rd w s) (ht : Rd w t) (hG : t.G = s.G) (h0 : 1 ≤ (s.G : Int)) (hb : (s.G : Int) ≤ 1000000) (b : Bool) (hyes : b = true → ∀ r, r < s.G → rowSame s t r) (hno : b = false → ¬ ∀ r, r < s.G → rowSame s t r) :
    Calls Tryd.prog 31 #[.slice s.g s.G s.cap, .slice t.g s.G t.cap] w fun e w' => e = .returned (.bool b) ∧ Kp (fun _ => False) w w' := by
  have HY : Hid (b = true → ∀ r, r < s.G → rowSame s t r) := hyes
  have HN : Hid (b = false → ¬ ∀ r, r < s.G → rowSame s t r) := hno
  have hne : ((s.G : Int) != (s.G : Int)) = false := bne_self_eq_false _
  rw [hs.at0 (by omega), ht.at0 (by omega)]
  clear hyes hno
  go_enter Tryd.func31, Tryd.ntmps31
  go_wp2
  go_loopg [13] s.G (fun gk i wr => ∃ k : Nat, k ≤ s.G ∧ gk = s.G - k ∧ i = .int .i64 k ∧ Hid (∀ r, r < k → rowSame s t r) ∧ Kp (fun _ => False) w wr)
  case atStart => exact ⟨0, Nat.zero_le _, rfl, rfl, fun _ h => absurd h (Nat.not_lt_zero _), Kp.refl _ _⟩
  case round =>
    obtain ⟨k, hk, rfl, rfl, hP, kw⟩ := hrel
    by_cases hlt : (k : Int) < (s.G : Int)
    · have hs' := hs.keep kw
      have ht' := ht.keep kw
      have c1 : ∀ m, (wr.drewN m).cell? _ = _ := fun m => hs'.hd k (by omega)
      have c2 : ∀ m, (wr.drewN m).cell? _ = _ := fun m => ht'.hd k (by omega)
      have v1 := fun m => convert_row (s.A k) (s.RB k) (s.RO k) (s.L k) (s.C k) (s.M k) (wr.drewN m) (hs'.to k (by omega)) (hs'.cell k (by omega))
      have v2 := fun m => convert_row (t.A k) (t.RB k) (t.RO k) (t.L k) (t.C k) (t.M k) (wr.drewN m) (ht'.to k (by omega)) (ht'.cell k (by omega))
      by_cases hrow : rowSame s t k
      · have e1 : strOfNums (ints (t.M k) (t.L k)) = strOfNums (ints (s.M k) (s.L k)) := by
          rw [show ints (t.M k) (t.L k) = ints (s.M k) (s.L k) from by
            unfold ints
            rw [← hrow.1]
            exact List.map_congr_left (fun j hj => by rw [hrow.2 j (List.mem_range.1 hj)])]
        simp only [e1] at v2
        have HR : Hid (∀ r, r < k + 1 → rowSame s t r) := fun r hr => by
          by_cases e : r = k
          · subst e; exact hrow
          · exact hP.out r (by omega)
        generalize strOfNums (ints (s.M k) (s.L k)) = B at *
        have hq : (B.toList == B.toList) = true := beq_self_eq_true _
        clear e1 hrow hP hs' ht'
        go_wp2
        go_quiet (fail)
        go_wp2
        go_roundg (s.G - (k + 1))
        case rel => exact ⟨k + 1, by omega, rfl, by go_num, HR.out, kw.drewN _⟩
        case measure => omega
      · have hq : ((strOfNums (ints (s.M k) (s.L k))).toList == (strOfNums (ints (t.M k) (t.L k))).toList) = false := by
          rw [beq_eq_false_iff_ne]
          exact fun e => hrow (strOf_ints_eq (hs.byte k) (ht.byte k) e)
        have hbf : b = false := by
          cases hb' : b with
          | false => rfl
          | true => exact absurd (HY.out hb' k (by omega)) hrow
        generalize strOfNums (ints (s.M k) (s.L k)) = B1 at *
        generalize strOfNums (ints (t.M k) (t.L k)) = B2 at *
        subst hbf
        clear hrow hP hs' ht' HY HN
        go_wp2
        go_quiet (fail)
        go_wp2
        go_ret
        exact ⟨rfl, kw.drewN _⟩
    · have hbt : b = true := by
        cases hb' : b with
        | true => rfl
        | false => exact absurd (fun r hr => hP.out r (by omega)) (HN.out hb')
      subst hbt
      clear hP HY HN
      go_wp2
      go_ret
      exact ⟨rfl, kw⟩

set_option maxRecDepth 100000 in
set_option maxHeartbeats 1600000 in
theorem right_fit (K M n : Nat) (s : Sh) (w : World) (hs : Rd w s) (hG : s.G = K + M) (hL : ∀ r, r < K → s.L r = n) (h1 : 1 ≤ (K : Int)) (h3 : (M : Int) ≤ 255 - (K : Int)) (hp : Pows w) (hn : (n : Int) ≤ 1000000) (hn1 : 1 ≤ (n : Int)) (hcap : (K : Int) ≤ (s.cap : Int))
    (b : Bool) (hyes : b = true → ∀ i, i < K + M → n = s.L i ∧ ∀ p, p < n → enc K s.M i p = s.M i p) (hno : b = false → ¬ ∀ i, i < K + M → n = s.L i ∧ ∀ p, p < n → enc K s.M i p = s.M i p) :
    Calls Tryd.prog 13 #[.agg #[.int .i64 K, .int .i64 M], .slice s.g (K + M) s.cap] w fun e w' => e = .returned (.bool b) ∧ Kp (fun _ => False) w w' := by
  obtain ⟨wa, hwa, k0, _, q1, q2⟩ := code_alloc w K M
  have HC : Hid (Calls _ _ _ wa _) := can_yes K M wa h1 (by omega) h3
  have hneq' : (((K + M : Nat) : Int) != (K : Int) + (M : Int)) = false := by rw [show ((K + M : Nat) : Int) = (K : Int) + (M : Int) from by simp]; exact bne_self_eq_false _
  have hneq : ((K : Int) + (M : Int) != (K : Int) + (M : Int)) = false := bne_self_eq_false _
  have hle : (K : Int) ≤ ((K + M : Nat) : Int) := by omega
  have hle2 : (K : Int) ≤ (K : Int) + (M : Int) := by omega
  have hg := hs.at0 (by omega)
  rw [hg]
  have HL : Hid (∀ r, r < K → s.L r = n) := hL
  have hG' : Hid (s.G = K + M) := hG
  have HY : Hid (b = true → ∀ i, i < K + M → n = s.L i ∧ ∀ p, p < n → enc K s.M i p = s.M i p) := hyes
  have HN : Hid (b = false → ¬ ∀ i, i < K + M → n = s.L i ∧ ∀ p, p < n → enc K s.M i p = s.M i p) := hno
  have Hg : Hid (s.g = some ⟨s.gb, s.go, none⟩) := hg
  clear hyes hno hL hG hg
  go_enter Tryd.func13, Tryd.ntmps13
  go_wp2_with fail
  rw [← hwa]
  refine HC.out.mono ?_
  rintro e w1 ⟨rfl, k1⟩
  have r1 := k1.cellv q1 id
  have r2 := k1.cellv q2 id
  have kk := k0.trans k1 (fun _ _ e => e)
  clear HC q1 q2 k0 k1 hwa
  have HE : Hid (∀ w' cap, Kp (fun _ => False) w1 w' → Calls _ _ #[_, .slice _ _ cap] w' _) := fun w' cap k' => encode_yes K M n ⟨s.g, K, cap, s.gb, s.go, s.A, s.L, s.C, s.RB, s.RO, s.M⟩ w' (by
    have h := (hs.keep kk).keep k'
    exact ⟨fun h0 => h.at0 (by rw [hG'.out]; simp at h0; omega), fun r hr => h.hd r (by rw [hG'.out]; simp at hr; omega), fun r hr => h.to r (by rw [hG'.out]; simp at hr; omega), fun r hr => h.cell r (by rw [hG'.out]; simp at hr; omega), h.byte⟩) rfl (fun r hr => HL.out r hr) h1 h3 (k'.pows (kk.pows hp id) id) hn hn1
  rw [show s.g = some ⟨s.gb, s.go, none⟩ from Hg.out] at HE
  go_wp2
  go_region_with (go_at_call 30; refine (HE.out _ _ (by exact ⟨rfl, rfl, rfl, Nat.le_refl _, fun _ _ _ => rfl⟩)).mono ?_; rintro e w2 ⟨t, B, rfl, k2, _, _, hM⟩)
  all_goals
    have kk2 := kk.trans (((Kp.refl (fun _ => False) w1).drew).trans k2 (fun _ _ e => e)) (fun _ _ e => e)
    have HF : Hid (Calls _ _ _ w2 _) := equalFunc_any (ofMat t B (K + M) n (enc K s.M)) s w2 hM.rd (hs.keep kk2) (by show ((K + M : Nat) : Int) ≤ _; omega) b
      (fun h => ⟨hG'.out.symm, fun r hr => HY.out h r hr⟩) (fun h hx => HN.out h (fun i hi => hx.2 i hi))
    rw [hG'.out, Hg.out] at HF
    clear HE
    go_wp2_with fail
    refine HF.out.mono ?_
    rintro e w3 ⟨rfl, hw⟩
    obtain rfl := hw.symm
    go_wp2
    go_ret
    exact ⟨rfl, kk2⟩

set_option maxRecDepth 100000 in
set_option maxHeartbeats 1600000 in
theorem right_nofit (K M : Nat) (s : Sh) (w : World) (hs : Rd w s) (hG : s.G = K + M) (h1 : 1 ≤ (K : Int)) (h3 : (M : Int) ≤ 255 - (K : Int)) (hcap : (K : Int) ≤ (s.cap : Int)) (h : ¬ (1 ≤ s.L 0 ∧ ∀ r, r < K → s.L r = s.L 0)) :
    Calls Tryd.prog 13 #[.agg #[.int .i64 K, .int .i64 M], .slice s.g (K + M) s.cap] w fun e w' => e = .returned (.bool false) ∧ Kp (fun _ => False) w w' := by
  obtain ⟨wa, hwa, k0, _, q1, q2⟩ := code_alloc w K M
  have HC : Hid (Calls _ _ _ wa _) := can_yes K M wa h1 (by omega) h3
  have hneq' : (((K + M : Nat) : Int) != (K : Int) + (M : Int)) = false := by rw [show ((K + M : Nat) : Int) = (K : Int) + (M : Int) from by simp]; exact bne_self_eq_false _
  have hneq : ((K : Int) + (M : Int) != (K : Int) + (M : Int)) = false := bne_self_eq_false _
  have hle : (K : Int) ≤ ((K + M : Nat) : Int) := by omega
  have hle2 : (K : Int) ≤ (K : Int) + (M : Int) := by omega
  have hg := hs.at0 (by omega)
  rw [hg]
  have hG' : Hid (s.G = K + M) := hG
  have HH : Hid (¬ (1 ≤ s.L 0 ∧ ∀ r, r < K → s.L r = s.L 0)) := h
  have Hg : Hid (s.g = some ⟨s.gb, s.go, none⟩) := hg
  clear hG hg h
  go_enter Tryd.func13, Tryd.ntmps13
  go_wp2_with fail
  rw [← hwa]
  refine HC.out.mono ?_
  rintro e w1 ⟨rfl, k1⟩
  have r1 := k1.cellv q1 id
  have r2 := k1.cellv q2 id
  have kk := k0.trans k1 (fun _ _ e => e)
  clear HC q1 q2 k0 k1 hwa
  have HE : Hid (∀ w' cap, Kp (fun _ => False) w1 w' → Calls _ _ #[_, .slice _ _ cap] w' _) := fun w' cap k' => encode_bad K M ⟨s.g, K, cap, s.gb, s.go, s.A, s.L, s.C, s.RB, s.RO, s.M⟩ w' (by
    have h := (hs.keep kk).keep k'
    exact ⟨fun h0 => h.at0 (by rw [hG'.out]; simp at h0; omega), fun r hr => h.hd r (by rw [hG'.out]; simp at hr; omega), fun r hr => h.to r (by rw [hG'.out]; simp at hr; omega), fun r hr => h.cell r (by rw [hG'.out]; simp at hr; omega), h.byte⟩) (fun _ => by unfold wrap64; omega) (fun hf => HH.out ⟨hf.2.2.1, hf.2.2.2⟩)
  rw [show s.g = some ⟨s.gb, s.go, none⟩ from Hg.out] at HE
  go_wp2
  go_region_with (go_at_call 30; refine (HE.out _ _ (by exact ⟨rfl, rfl, rfl, Nat.le_refl _, fun _ _ _ => rfl⟩)).mono ?_; rintro e w2 ⟨rfl, k2⟩)
  all_goals
    have kk2 := kk.trans (((Kp.refl (fun _ => False) w1).drew).trans k2 (fun _ _ e => e)) (fun _ _ e => e)
    clear HE
    go_wp2
    go_ret
    exact ⟨rfl, kk2⟩
end Go.Proofs.YtbmhfclknilcoaaDoor
