/- The errors of both sides' Encode, of whatever comes in. -/
import Derived.Test.YtmncocmeafcpfaaDoorMfR6
namespace Go.Proofs.YtmncocmeafcpfaaDoor.Mf
open Go.RowKit Go.Deep

/-- what Encode asks of its parameters -/
def Fit (K M : Int) (s : Sh) : Prop := (1 ≤ K ∧ 0 ≤ M ∧ M ≤ 255 - K) ∧ (s.G : Int) = K ∧ 1 ≤ s.L 0 ∧ ∀ r, r < s.G → s.L r = s.L 0

set_option maxRecDepth 100000 in
set_option maxHeartbeats 1600000 in
theorem refEncode_no (K M : Int) (s : Sh) (w : World) (hs : Rd w s) (hb : (s.G : Int) ≤ 1000000) (h : ¬ Fit K M s) :
    Calls Tryd.prog 46 #[.agg #[.int .i64 K, .int .i64 M], .slice s.g s.G s.cap] w fun e w' =>
      e = .returned (.tuple #[.slice none 0 0, .int .i64 1]) ∧ Kp (fun _ => False) w w' := by
  obtain ⟨wa, hwa⟩ : ∃ x, x = w.alloc (.cells #[.int .i64 K, .int .i64 M] 26) := ⟨_, rfl⟩
  have q1 : wa.cell? ⟨w.heap.size, 0, none⟩ = some (.int .i64 K) := by rw [hwa]; go_simp
  have k0 : Kp (fun _ => False) w wa := by rw [hwa]; exact (Kp.refl _ _).alloc _
  have HN : Hid (¬ Fit K M s) := h
  clear h
  by_cases hc : 1 ≤ K ∧ 0 ≤ M ∧ M ≤ 255 - K
  · have HC : Hid (Calls _ _ _ wa _) := refCan_yes K M wa hc.1 hc.2.1 hc.2.2
    by_cases hK : (s.G : Int) = K
    · have hnn : ((s.G : Int) != K) = false := by rw [hK]; exact bne_self_eq_false _
      have hG1 : 1 ≤ (s.G : Int) := by omega
      have HG1 := hs.at0 (by omega)
      rw [HG1]
      by_cases hz : s.L 0 = 0
      · have c0 := k0.cellv (hs.hd 0 (by omega)) id
        rw [hz] at c0
        simp only [Nat.add_zero] at c0
        have hd0 : (((0 : Nat) : Int) == 0) = true := rfl
        go_enter Tryd.func46, Tryd.ntmps46
        go_wp2_with fail
        rw [← hwa]
        refine HC.out.mono ?_
        rintro e w1 ⟨rfl, k1⟩
        have r1 := k1.cellv q1 id
        have d0 := k1.cellv c0 id
        have kk := k0.trans k1 (fun _ _ e => e)
        clear HC q1 k0 k1 hwa c0
        go_wp2
        go_ret2
        exact ⟨rfl, kk⟩
      · have hz1 : ((s.L 0 : Int) == 0) = false := by simp; omega
        have Hh : Hid (∀ r, r < s.G → w.cell? ⟨s.gb, s.go + r, none⟩ = some (.slice (s.A r) (s.L r) (s.C r))) := fun r hr => hs.hd r hr
        have HBd : Hid (¬ ∀ r, r < s.G → s.L r = s.L 0) := fun hh => HN.out ⟨hc, hK, by omega, hh⟩
        have c0 := k0.cellv (Hh.out 0 (by omega)) id
        simp only [Nat.add_zero] at c0
        clear HN
        go_enter Tryd.func46, Tryd.ntmps46
        go_wp2_with fail
        rw [← hwa]
        refine HC.out.mono ?_
        rintro e w1 ⟨rfl, k1⟩
        have r1 := k1.cellv q1 id
        have d0 := k1.cellv c0 id
        have kk := k0.trans k1 (fun _ _ e => e)
        clear HC q1 k0 k1 hwa c0
        go_wp2_with fail
        go_loopg [37] s.G (fun gk i wr => ∃ k : Nat, k ≤ s.G ∧ gk = s.G - k ∧ i = .int .i64 k ∧ Hid (∀ r, r < k → s.L r = s.L 0) ∧ wr = w1)
        case atStart => exact ⟨0, Nat.zero_le _, rfl, rfl, fun r hr => absurd hr (Nat.not_lt_zero _), rfl⟩
        case round =>
          obtain ⟨k, hk, rfl, rfl, hsame, hw⟩ := hrel
          obtain rfl := hw.symm
          by_cases hlt : (k : Int) < (s.G : Int)
          · have f := kk.cellv (Hh.out k (by omega)) id
            by_cases he : s.L k = s.L 0
            · have HE : Hid (s.L k = s.L 0) := he
              rw [he] at f
              have hne : ((s.L 0 : Int) != (s.L 0 : Int)) = false := bne_self_eq_false _
              clear he
              go_wp2
              go_roundg (s.G - (k + 1))
              case rel => exact ⟨k + 1, by omega, rfl, by go_num, fun r hr => by
                by_cases e : r = k
                · rw [e]; exact HE.out
                · exact hsame.out r (by omega), rfl⟩
              case measure => omega
            · have hne : ((s.L k : Int) != (s.L 0 : Int)) = true := bne_iff_ne.2 (by omega)
              go_wp2
              go_ret2
              exact ⟨rfl, kk⟩
          · exact absurd (fun r hr => hsame.out r (by omega)) HBd.out
    · have hnn : ((s.G : Int) != K) = true := bne_iff_ne.2 hK
      go_enter Tryd.func46, Tryd.ntmps46
      go_wp2_with fail
      rw [← hwa]
      refine HC.out.mono ?_
      rintro e w1 ⟨rfl, k1⟩
      have r1 := k1.cellv q1 id
      have kk := k0.trans k1 (fun _ _ e => e)
      clear HC q1 k0 k1 hwa
      go_wp2
      go_ret2
      exact ⟨rfl, kk⟩
  · have HC : Hid (Calls _ _ _ wa _) := refCan_no K M wa hc
    clear hc HN
    go_enter Tryd.func46, Tryd.ntmps46
    go_wp2_with fail
    rw [← hwa]
    refine HC.out.mono ?_
    rintro e w1 ⟨rfl, k1⟩
    have kk := k0.trans k1 (fun _ _ e => e)
    clear HC q1 k0 k1 hwa
    go_wp2
    go_ret2
    exact ⟨rfl, kk⟩

theorem fit_of {L : Nat → Nat} {K : Nat} (h0 : 0 < K) (h1 : (thereTo L K).length = K) (h2 : alikeTo L K K = true) : 1 ≤ L 0 ∧ ∀ r, r < K → L r = L 0 := by
  have hall : ∀ r, r < K → 0 < L r := fun r hr => by
    have : (List.range K).filter (fun r => decide (0 < L r)) = List.range K := by
      refine (List.filter_sublist (l := List.range K)).eq_of_length ?_
      have := h1
      unfold thereTo at this
      simpa using this
    have hm := List.filter_eq_self.1 this r (List.mem_range.2 hr)
    simpa using hm
  have hl0 : len0 L K = L 0 := by
    unfold len0
    rw [thereTo_all hall]
    have : (List.range K).headD 0 = 0 := by
      cases K with
      | zero => omega
      | succ k => rw [List.range_succ_eq_map]; rfl
    rw [this]
  refine ⟨hall 0 h0, fun r hr => ?_⟩
  have := (of_decide_eq_true h2) r hr
  rw [hl0] at this
  have := hall r hr
  omega

set_option maxRecDepth 100000 in
set_option maxHeartbeats 1600000 in
theorem encode_bad (K M : Int) (s : Sh) (w : World) (hs : Rd w s) (hw : 1 ≤ K → wrap64 (255 - K) = 255 - K) (h : ¬ Fit K M s) :
    Calls Tryd.prog 118 #[.agg #[.int .i64 K, .int .i64 M], .slice s.g s.G s.cap] w fun e w' =>
      e = .returned (.tuple #[.slice none 0 0, .int .i64 1]) ∧ Kp (fun _ => False) w w' := by
  by_cases hc : 1 ≤ K ∧ 0 ≤ M ∧ M ≤ 255 - K
  · by_cases hK : (s.G : Int) = K
    · subst hK
      obtain ⟨m, rfl⟩ : ∃ m : Nat, M = (m : Int) := ⟨M.toNat, by omega⟩
      refine encode_no s.G m s w hs rfl hc.1 hc.2.2 ?_
      by_cases e1 : (thereTo s.L s.G).length = s.G
      · right
        by_cases e2 : alikeTo s.L s.G s.G = true
        · exact absurd ⟨hc, rfl, (fit_of (by omega) e1 e2).1, (fit_of (by omega) e1 e2).2⟩ h
        · simpa using e2
      · exact Or.inl e1
    · obtain ⟨wa, hwa⟩ : ∃ x, x = w.alloc (.cells #[.int .i64 K, .int .i64 M] 26) := ⟨_, rfl⟩
      have q1 : wa.cell? ⟨w.heap.size, 0, none⟩ = some (.int .i64 K) := by rw [hwa]; go_simp
      have k0 : Kp (fun _ => False) w wa := by rw [hwa]; exact (Kp.refl _ _).alloc _
      have HC : Hid (Calls _ _ _ wa _) := can_yes K M wa hc.1 hc.2.1 hc.2.2
      have hnn : ((s.G : Int) != K) = true := bne_iff_ne.2 hK
      clear hw h hs
      go_enter Tryd.func118, Tryd.ntmps118
      go_wp2_with fail
      rw [← hwa]
      refine HC.out.mono ?_
      rintro e w1 ⟨rfl, k1⟩
      have r1 := k1.cellv q1 id
      have kk := k0.trans k1 (fun _ _ e => e)
      clear HC q1 k0 k1 hwa
      go_wp2
      go_ret2
      exact ⟨rfl, kk⟩
  · obtain ⟨wa, hwa⟩ : ∃ x, x = w.alloc (.cells #[.int .i64 K, .int .i64 M] 26) := ⟨_, rfl⟩
    have k0 : Kp (fun _ => False) w wa := by rw [hwa]; exact (Kp.refl _ _).alloc _
    have HC : Hid (Calls _ _ _ wa _) := can_no K M wa hw hc
    clear hc h hs hw
    go_enter Tryd.func118, Tryd.ntmps118
    go_wp2_with fail
    rw [← hwa]
    refine HC.out.mono ?_
    rintro e w1 ⟨rfl, k1⟩
    have kk := k0.trans k1 (fun _ _ e => e)
    clear HC k0 k1 hwa
    go_wp2
    go_ret2
    exact ⟨rfl, kk⟩
end Go.Proofs.YtmncocmeafcpfaaDoor.Mf
