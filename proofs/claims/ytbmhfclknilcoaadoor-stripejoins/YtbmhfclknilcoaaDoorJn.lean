/- The walks of the reference's Join, and of stripe.Join's errors. -/
import Derived.Test.YtbmhfclknilcoaaDoorMgAK
import Derived.Test.YtbmhfclknilcoaaDoorSu
import Derived.Test.YtbmhfclknilcoaaDoorRd5
namespace Go.Proofs.YtbmhfclknilcoaaDoor
open Go.RowKit Go.Deep Bl

/-- what Join asks ahead of the shards' lengths -/
def Jd (K M size : Int) (G : Nat) : Prop := ((1 ≤ K ∧ 0 ≤ M ∧ M ≤ 255 - K) ∧ 0 ≤ size ∧ size ≤ 400) ∧ (G : Int) = K + M

set_option maxRecDepth 100000 in
set_option maxHeartbeats 800000 in
theorem join_bad (K M size : Int) (g : Option Addr) (G cap : Nat) (w : World) (hw : 1 ≤ K → wrap64 (255 - K) = 255 - K) (h : ¬ Jd K M size G) :
    Calls Tryd.prog 17 #[.agg #[.int .i64 K, .int .i64 M], .int .i64 size, .slice g G cap] w fun e w' => e = .returned (.tuple #[.slice none 0 0, .int .i64 1]) ∧ Kp (fun _ => False) w w' := by
  obtain ⟨wa, hwa, ka, za, q1, q2⟩ := code_alloc w K M
  by_cases hc : (1 ≤ K ∧ 0 ≤ M ∧ M ≤ 255 - K) ∧ 0 ≤ size ∧ size ≤ 400
  · have hne : ((G : Int) != K + M) = true := by rw [bne_iff_ne]; intro e; exact h ⟨hc, e⟩
    obtain ⟨⟨h1, h2, h3⟩, h4, h5⟩ := hc
    obtain ⟨k, rfl⟩ : ∃ k : Nat, K = (k : Int) := ⟨K.toNat, by omega⟩
    obtain ⟨m, rfl⟩ : ∃ m : Nat, M = (m : Int) := ⟨M.toNat, by omega⟩
    obtain ⟨z, rfl⟩ : ∃ z : Nat, size = (z : Int) := ⟨size.toNat, by omega⟩
    have HC : Hid (Calls _ _ _ wa _) := length_yes k m z wa h1 h3 h5
    obtain ⟨l1, l2⟩ := lenOf_bd (K := k) (size := z) (by omega) (by omega)
    generalize lenOf k z = N at *
    have dN : ((N : Int) == 0) = false := beq_eq_false_iff_ne.2 (by omega)
    clear h hw
    go_enter Tryd.func17, Tryd.ntmps17
    go_wp2_with fail
    rw [← hwa]
    refine HC.out.mono ?_
    rintro e w1 ⟨rfl, k1⟩
    have kk := ka.trans k1 (fun _ _ e => e)
    have r1 := ((Kp.refl (fun _ => False) w1).alloc (.cells #[.int .i64 (N : Int)] 3)).cellv (k1.cellv q1 id) id
    have r2 := ((Kp.refl (fun _ => False) w1).alloc (.cells #[.int .i64 (N : Int)] 3)).cellv (k1.cellv q2 id) id
    have hlw : w.heap.size ≠ w1.heap.size := by have := k1.size; omega
    clear hwa q1 q2
    go_wp2
    go_ret2
    exact ⟨rfl, kk.alloc _⟩
  · have HC : Hid (Calls _ _ _ wa _) := length_no K M size wa hw hc
    clear h hw hc
    go_enter Tryd.func17, Tryd.ntmps17
    go_wp2_with fail
    rw [← hwa]
    refine HC.out.mono ?_
    rintro e w1 ⟨rfl, k1⟩
    have kk := ka.trans k1 (fun _ _ e => e)
    clear hwa q1 q2
    go_wp2
    go_ret2
    exact ⟨rfl, kk.alloc _⟩

set_option maxRecDepth 100000 in
set_option maxHeartbeats 1600000 in
theorem indexFunc_yes (s : Sh) (lb n : Nat) (w : World) (hs : Rd w s) (h0 : 1 ≤ (s.G : Int)) (hG : (s.G : Int) ≤ 1000000000000) (hb : w.cell? ⟨lb, 0, none⟩ = some (.int .i64 (n : Int))) (hyes : ∃ r, r < s.G ∧ oddLen (s.L r) n = true) :
    Calls Tryd.prog 48 #[.slice s.g s.G s.cap, .func (.func 33) #[] #[.pointer (some ⟨lb, 0, none⟩)]] w fun e w' => ∃ j : Nat, e = .returned (.int .i64 (j : Int)) ∧ w' = w := by
  rw [hs.at0 (by omega)]
  have HN : Hid (∃ r, r < s.G ∧ oddLen (s.L r) n = true) := hyes
  clear hyes
  go_enter Tryd.func48, Tryd.ntmps48
  go_wp2
  go_loopg [8] s.G (fun gk i wr => ∃ k : Nat, k ≤ s.G ∧ gk = s.G - k ∧ i = .int .i64 k ∧ Hid (∀ r, r < k → oddLen (s.L r) n = false) ∧ wr = w)
  case atStart => exact ⟨0, Nat.zero_le _, rfl, rfl, fun r hr => absurd hr (Nat.not_lt_zero _), rfl⟩
  case round =>
    obtain ⟨k, hk, rfl, rfl, HP, rfl⟩ := hrel
    by_cases hlt : (k : Int) < (s.G : Int)
    · have c1 := hs.hd k (by omega)
      have HJ : Hid (∀ p c, Calls _ _ #[.slice p _ c, _] wr _) := fun p c => joinTest_any p (s.L k) c lb n wr hb
      by_cases ho : oddLen (s.L k) n = true
      · rw [ho] at HJ
        clear HP ho
        go_wp2_with fail
        refine (HJ.out _ _).mono ?_
        rintro e w2 ⟨rfl, hw⟩
        obtain rfl := hw.symm
        go_wp2
        go_ret
        exact ⟨k, rfl, rfl⟩
      · have ho' : oddLen (s.L k) n = false := by simpa using ho
        have HP2 : Hid (∀ r, r < k + 1 → oddLen (s.L r) n = false) := fun r hr => by
          by_cases e : r = k
          · subst e; exact ho'
          · exact HP.out r (by omega)
        rw [ho'] at HJ
        clear HP ho ho'
        go_wp2_with fail
        refine (HJ.out _ _).mono ?_
        rintro e w2 ⟨rfl, hw⟩
        obtain rfl := hw.symm
        go_wp2
        go_roundg (s.G - (k + 1))
        case rel => exact ⟨k + 1, by omega, rfl, by go_num, HP2.out, rfl⟩
        case measure => omega
    · obtain ⟨r, hr, ho⟩ := HN.out
      rw [HP.out r (by omega)] at ho
      cases ho

set_option maxRecDepth 100000 in
set_option maxHeartbeats 800000 in
theorem containsFunc_yes (s : Sh) (lb n : Nat) (w : World) (hs : Rd w s) (h0 : 1 ≤ (s.G : Int)) (hG : (s.G : Int) ≤ 1000000000000) (hb : w.cell? ⟨lb, 0, none⟩ = some (.int .i64 (n : Int))) (hyes : ∃ r, r < s.G ∧ oddLen (s.L r) n = true) :
    Calls Tryd.prog 32 #[.slice s.g s.G s.cap, .func (.func 33) #[] #[.pointer (some ⟨lb, 0, none⟩)]] w fun e w' => e = .returned (.bool true) ∧ w' = w := by
  have HI : Hid (Calls _ _ _ w _) := indexFunc_yes s lb n w hs h0 hG hb hyes
  clear hyes hs
  go_enter Tryd.func32, Tryd.ntmps32
  go_wp2_with fail
  refine HI.out.mono ?_
  rintro e w2 ⟨j, rfl, hw⟩
  obtain rfl := hw.symm
  have d : decide ((0 : Int) ≤ (j : Int)) = true := by simp
  go_wp2
  go_ret
  exact ⟨rfl, rfl⟩

set_option maxRecDepth 100000 in
set_option maxHeartbeats 3200000 in
theorem join_no (K M size : Nat) (s : Sh) (w : World) (hs : Rd w s) (hG : s.G = K + M) (h1 : 1 ≤ (K : Int)) (h3 : (M : Int) ≤ 255 - (K : Int)) (hsz : (size : Int) ≤ 400) (c : Int)
    (h : ((∃ r, r < K + M ∧ oddLen (s.L r) (lenOf K size) = true) ∧ c = 1) ∨ ((∀ r, r < K + M → oddLen (s.L r) (lenOf K size) = false) ∧ alikeTo s.L (K + M) (K + M) = true ∧ (thereTo s.L (K + M)).length < K ∧ c = 30)) (hln : len0 s.L (K + M) ≤ 1000 ∨ c = 1) (hp : Pows w) :
    Calls Tryd.prog 17 #[.agg #[.int .i64 K, .int .i64 M], .int .i64 size, .slice s.g (K + M) s.cap] w fun e w' => e = .returned (.tuple #[.slice none 0 0, .int .i64 c]) ∧ Kp (fun _ => False) w w' := by
  obtain ⟨wa, hwa, ka, za, q1, q2⟩ := code_alloc w K M
  have HC : Hid (Calls _ _ _ wa _) := length_yes K M size wa h1 h3 hsz
  obtain ⟨l1, l2⟩ := lenOf_bd (K := K) (size := size) (by omega) (by omega)
  obtain ⟨N, hN⟩ : ∃ x, x = lenOf K size := ⟨_, rfl⟩
  rw [← hN] at HC l1 l2 h
  clear hN
  have dN : ((N : Int) == 0) = false := beq_eq_false_iff_ne.2 (by omega)
  have hneq' : (((K + M : Nat) : Int) != (K : Int) + (M : Int)) = false := by rw [show ((K + M : Nat) : Int) = (K : Int) + (M : Int) from by simp]; exact bne_self_eq_false _
  have hneq : ((K : Int) + (M : Int) != (K : Int) + (M : Int)) = false := bne_self_eq_false _
  have HH : Hid (_ ∨ _) := h
  have HLn : Hid (_ ∨ _) := hln
  clear h hln
  go_enter Tryd.func17, Tryd.ntmps17
  go_wp2_with fail
  rw [← hwa]
  refine HC.out.mono ?_
  rintro e w1 ⟨rfl, k1⟩
  have r1 := k1.cellv q1 id
  have r2 := k1.cellv q2 id
  have kk := ka.trans k1 (fun _ _ e => e)
  obtain ⟨w2, hw2⟩ : ∃ x, x = w1.alloc (.cells #[.int .i64 (N : Int)] 3) := ⟨_, rfl⟩
  have k2 : Kp (fun _ => False) w1 w2 := by rw [hw2]; exact (Kp.refl _ _).alloc _
  have cN : w2.cell? ⟨w1.heap.size, 0, none⟩ = some (.int .i64 (N : Int)) := by rw [hw2]; go_simp
  have kk2 := kk.trans k2 (fun _ _ e => e)
  have hlw : w.heap.size ≠ w1.heap.size := by have := k1.size; omega
  have s1u := k2.cellv r1 id
  have s2u := k2.cellv r2 id
  have s1 := s1u
  have s2 := s2u
  rw [hw2] at s1u s2u
  rcases HH.out with ⟨hodd, rfl⟩ | ⟨hnone, hal, hfew, rfl⟩
  · have HCf : Hid (Calls _ _ _ w2 _) := containsFunc_yes s w1.heap.size N w2 (hs.keep kk2) (by omega) (by omega) cN (by rw [hG]; exact hodd)
    rw [hG] at HCf
    clear hwa HC q1 q2 HH HLn hodd s1 s2
    go_wp2_with fail
    rw [← hw2]
    clear hw2 s1u s2u
    refine HCf.out.mono ?_
    rintro e w3 ⟨rfl, hw⟩
    obtain rfl := hw.symm
    clear HCf
    go_wp2
    go_ret2
    exact ⟨rfl, kk2⟩
  · have HCf : Hid (Calls _ _ _ w2 _) := containsFunc_no s w1.heap.size N w2 (hs.keep kk2) (by omega) (by omega) cN (by rw [hG]; exact hnone)
    have HDc : Hid (Calls _ _ _ w2 _) := decode_any K M s w2 (hs.keep kk2) hG h1 h3 (kk2.pows hp id) (by rcases HLn.out with h | h; omega; cases h)
    have HA : Hid (alikeTo s.L (K + M) (K + M) = true ∧ (thereTo s.L (K + M)).length < K) := ⟨hal, hfew⟩
    rw [hG] at HCf
    clear hwa HC q1 q2 HH HLn hnone hal hfew
    go_wp2_with fail
    rw [← hw2]
    clear hw2 s1u s2u
    refine HCf.out.mono ?_
    rintro e w3 ⟨rfl, hw⟩
    obtain rfl := hw.symm
    clear HCf
    go_wp2_with fail
    refine HDc.out.mono ?_
    rintro e w4 ⟨k4, ⟨hx, rfl⟩ | ⟨_, _, rfl⟩ | ⟨_, hx, _⟩⟩
    · rw [HA.out.1] at hx; cases hx
    · clear HDc HA
      go_wp2
      go_ret2
      exact ⟨rfl, kk2.trans k4 (fun _ _ e => e)⟩
    · have := HA.out.2; omega

set_option maxRecDepth 100000 in
set_option maxHeartbeats 800000 in
theorem refJoin_bad (K M size : Int) (g : Option Addr) (G cap : Nat) (w : World) (h : ¬ Jd K M size G) :
    Calls Tryd.prog 18 #[.agg #[.int .i64 K, .int .i64 M], .int .i64 size, .slice g G cap] w fun e w' => e = .returned (.tuple #[.slice none 0 0, .int .i64 1]) ∧ Kp (fun _ => False) w w' := by
  obtain ⟨wa, hwa, ka, za, q1, q2⟩ := code_alloc w K M
  by_cases hc : (1 ≤ K ∧ 0 ≤ M ∧ M ≤ 255 - K) ∧ 0 ≤ size ∧ size ≤ 400
  · have hne : ((G : Int) != K + M) = true := by rw [bne_iff_ne]; intro e; exact h ⟨hc, e⟩
    obtain ⟨⟨h1, h2, h3⟩, h4, h5⟩ := hc
    obtain ⟨k, rfl⟩ : ∃ k : Nat, K = (k : Int) := ⟨K.toNat, by omega⟩
    obtain ⟨m, rfl⟩ : ∃ m : Nat, M = (m : Int) := ⟨M.toNat, by omega⟩
    obtain ⟨z, rfl⟩ : ∃ z : Nat, size = (z : Int) := ⟨size.toNat, by omega⟩
    have HC : Hid (Calls _ _ _ wa _) := refLength_yes k m z wa h1 h3 h5
    obtain ⟨l1, l2⟩ := lenOf_bd (K := k) (size := z) (by omega) (by omega)
    generalize lenOf k z = N at *
    have dN : ((N : Int) == 0) = false := beq_eq_false_iff_ne.2 (by omega)
    clear h
    go_enter Tryd.func18, Tryd.ntmps18
    go_wp2_with fail
    rw [← hwa]
    refine HC.out.mono ?_
    rintro e w1 ⟨rfl, k1⟩
    have kk := ka.trans k1 (fun _ _ e => e)
    have r1 := k1.cellv q1 id
    have r2 := k1.cellv q2 id
    clear hwa q1 q2
    go_wp2
    go_ret2
    exact ⟨rfl, kk⟩
  · have HC : Hid (Calls _ _ _ wa _) := refLength_no K M size wa hc
    clear h hc
    go_enter Tryd.func18, Tryd.ntmps18
    go_wp2_with fail
    rw [← hwa]
    refine HC.out.mono ?_
    rintro e w1 ⟨rfl, k1⟩
    have kk := ka.trans k1 (fun _ _ e => e)
    clear hwa q1 q2
    go_wp2
    go_ret2
    exact ⟨rfl, kk⟩

set_option maxRecDepth 100000 in
set_option maxHeartbeats 3200000 in
theorem refJoin_no (K M size : Nat) (s : Sh) (w : World) (hs : Rd w s) (hG : s.G = K + M) (h1 : 1 ≤ (K : Int)) (h3 : (M : Int) ≤ 255 - (K : Int)) (hsz : (size : Int) ≤ 400) (c : Int)
    (h : ((∃ r, r < K + M ∧ oddLen (s.L r) (lenOf K size) = true) ∧ c = 1) ∨ ((∀ r, r < K + M → oddLen (s.L r) (lenOf K size) = false) ∧ alikeTo s.L (K + M) (K + M) = true ∧ (thereTo s.L (K + M)).length < K ∧ c = 30)) :
    Calls Tryd.prog 18 #[.agg #[.int .i64 K, .int .i64 M], .int .i64 size, .slice s.g (K + M) s.cap] w fun e w' => e = .returned (.tuple #[.slice none 0 0, .int .i64 c]) ∧ Kp (fun _ => False) w w' := by
  obtain ⟨wa, hwa, ka, za, q1, q2⟩ := code_alloc w K M
  have HC : Hid (Calls _ _ _ wa _) := refLength_yes K M size wa h1 h3 hsz
  obtain ⟨l1, l2⟩ := lenOf_bd (K := K) (size := size) (by omega) (by omega)
  obtain ⟨N, hN⟩ : ∃ x, x = lenOf K size := ⟨_, rfl⟩
  rw [← hN] at HC l1 l2 h
  clear hN
  have dN : ((N : Int) == 0) = false := beq_eq_false_iff_ne.2 (by omega)
  have hneq : ((K : Int) + (M : Int) != (K : Int) + (M : Int)) = false := bne_self_eq_false _
  have HH : Hid (_ ∨ _) := h
  rw [hs.at0 (by omega)]
  clear h
  go_enter Tryd.func18, Tryd.ntmps18
  go_wp2_with fail
  rw [← hwa]
  refine HC.out.mono ?_
  rintro e w1 ⟨rfl, k1⟩
  have r1 := k1.cellv q1 id
  have r2 := k1.cellv q2 id
  have kk := ka.trans k1 (fun _ _ e => e)
  clear hwa q1 q2 HC
  go_wp2
  go_loopg [33] (K + M) (fun gk i wr => ∃ k : Nat, k ≤ K + M ∧ gk = K + M - k ∧ i = .int .i64 k ∧ Hid (∀ r, r < k → oddLen (s.L r) N = false) ∧ wr = w1)
  case atStart => exact ⟨0, Nat.zero_le _, rfl, rfl, fun r hr => absurd hr (Nat.not_lt_zero _), rfl⟩
  case round =>
    obtain ⟨k, hk, rfl, rfl, HP, hwr⟩ := hrel
    obtain rfl := hwr.symm
    by_cases hlt : (k : Int) < (K : Int) + (M : Int)
    · have c1 := kk.cellv (hs.hd k (by omega)) id
      by_cases h0 : s.L k = 0
      · have HP2 : Hid (∀ r, r < k + 1 → oddLen (s.L r) N = false) := fun r hr => by
          by_cases e : r = k
          · subst e; exact decide_eq_false (by omega)
          · exact HP.out r (by omega)
        have d0 : ((s.L k : Int) != 0) = false := by rw [h0]; rfl
        clear HP h0
        go_wp2
        go_roundg (K + M - (k + 1))
        case rel => exact ⟨k + 1, by omega, rfl, by go_num, HP2.out, rfl⟩
        case measure => omega
      · have d0 : ((s.L k : Int) != 0) = true := bne_iff_ne.2 (by omega)
        by_cases h2 : s.L k = N
        · have HP2 : Hid (∀ r, r < k + 1 → oddLen (s.L r) N = false) := fun r hr => by
            by_cases e : r = k
            · subst e; exact decide_eq_false (by omega)
            · exact HP.out r (by omega)
          have d2 : ((s.L k : Int) != (N : Int)) = false := by rw [h2]; exact bne_self_eq_false _
          clear HP h0 h2
          go_wp2
          go_roundg (K + M - (k + 1))
          case rel => exact ⟨k + 1, by omega, rfl, by go_num, HP2.out, rfl⟩
          case measure => omega
        · have d2 : ((s.L k : Int) != (N : Int)) = true := bne_iff_ne.2 (by omega)
          have hc1 : c = 1 := by
            rcases HH.out with ⟨_, h⟩ | ⟨h, _⟩
            · exact h
            · have := h k (by omega)
              simp [oddLen] at this
              omega
          subst hc1
          clear HP h0 h2 HH
          go_wp2
          go_ret2
          exact ⟨rfl, kk⟩
    · rcases HH.out with ⟨⟨r, hr, ho⟩, _⟩ | ⟨_, hal, hfew, rfl⟩
      · rw [HP.out r (by omega)] at ho; cases ho
      · have HD : Hid (Calls _ _ _ w1 _) := refDecode_no K M s w1 (hs.keep kk) hG h1 h3 30 (Or.inr ⟨hal, hfew, rfl⟩)
        rw [hs.at0 (by omega)] at HD
        clear HP HH hal hfew
        go_wp2_with fail
        refine HD.out.mono ?_
        rintro e w2 ⟨rfl, k2⟩
        clear HD
        go_wp2
        go_ret2
        exact ⟨rfl, kk.trans k2 (fun _ _ e => e)⟩

/-- what Join gathers: stripe by stripe, unit by unit -/
def gat (K : Nat) (D : Nat → Nat → Nat) (n : Nat) : List Nat := (List.range n).map fun i => D (seatK K i) (seatAt K i)
theorem gat_length (K : Nat) (D : Nat → Nat → Nat) (n : Nat) : (gat K D n).length = n := by simp [gat]
theorem gat_byte {K : Nat} {D : Nat → Nat → Nat} (h : ∀ i j, D i j < 256) (n : Nat) : ∀ x ∈ gat K D n, x < 256 := fun x hx => by
  obtain ⟨j, _, rfl⟩ := List.mem_map.1 hx; exact h _ _
theorem gat_get (K : Nat) (D : Nat → Nat → Nat) (n : Nat) {i : Nat} (h : i < n) : (gat K D n).getD i 0 = D (seatK K i) (seatAt K i) := by
  unfold gat; rw [List.getD_eq_getElem?_getD, List.getElem?_map, List.getElem?_range h]; rfl
/-- eight bytes more -/
theorem gat_add {K : Nat} (D : Nat → Nat → Nat) {s k : Nat} (hk : k < K) : gat K D ((s * K + k) * 8 + 8) = gat K D ((s * K + k) * 8) ++ (List.range 8).map fun x => D k (8 * s + x) := by
  unfold gat
  rw [List.range_add, List.map_append, List.map_map]
  congr 1
  refine List.map_congr_left fun x hx => ?_
  have hx8 : x < 8 := List.mem_range.1 hx
  have e : (s * K + k) * 8 + x = byteAt K k (8 * s + x) := by
    unfold byteAt
    rw [show (8 * s + x) / 8 = s from by omega, show (8 * s + x) % 8 = x from by omega]
  simp only [Function.comp]
  rw [e, (seat_byte hk).1, (seat_byte hk).2]

theorem slice_first (p : Option Addr) (n c r : Nat) (hr : r ≤ c) (w : World) :
    (Instr.slice 30 (.slice p n c) none (some (.int .i64 (r : Int))) none).run Tryd.prog w = .ok (.slice p r c) w := by
  obtain ⟨i, hi, hz⟩ := Option.map_eq_some_iff.1 info5
  simp only [Prod.mk.injEq] at hz
  obtain ⟨hz, hs, hb⟩ := hz
  have h2 : (0 : Int) ≤ r ∧ (r : Int) ≤ (c : Int) := by omega
  have : (Instr.slice 30 (.slice p n c) none (some (.int .i64 (r : Int))) none).run Tryd.prog w = .ok (.slice (if c = 0 then p else p.map (·.add (0 * 1))) (r - 0) (c - 0)) w := by
    simp [Instr.slice, Instr.sliceBounds, Instr.sliceBound, asIntOf, run_underlying Tryd.underlying30, sizeOf, typeInfo, hi, hr]
  rw [this]
  cases p <;> simp [Addr.add]
theorem rb_take {w : World} {p : Option Addr} {n r : Nat} {xs : List Nat} (h : Rb w p n xs) (hr : r ≤ n) : Rb w p r (xs.take r) :=
  ⟨by rw [List.length_take, h.len]; omega, fun x hx => h.byte x (List.mem_of_mem_take hx), fun j hj => by
    obtain ⟨b, o, e, hc⟩ := h.cell j (by omega)
    refine ⟨b, o, e, ?_⟩
    rw [hc, List.getD_eq_getElem?_getD, List.getD_eq_getElem?_getD, List.getElem?_take_of_lt hj]⟩
theorem cut8 (f : Nat → Nat) {n s : Nat} (h : 8 * s + 8 ≤ n) : (((List.range n).map f).take (8 * s + 8)).drop (8 * s) = (List.range 8).map fun x => f (8 * s + x) := by
  rw [← List.map_take, ← List.map_drop, List.take_range, show min (8 * s + 8) n = 8 * s + 8 from by omega, List.range_add, List.drop_append, List.drop_of_length_le (by simp), List.map_append, List.map_drop, List.map_map]
  simp

set_option maxRecDepth 100000 in
set_option maxHeartbeats 3200000 in
theorem refJoin_yes (K M size : Nat) (s : Sh) (w : World) (hs : Rd w s) (hG : s.G = K + M) (h1 : 1 ≤ (K : Int)) (h3 : (M : Int) ≤ 255 - (K : Int)) (hsz : (size : Int) ≤ 400) (hno : ∀ r, r < K + M → oddLen (s.L r) (lenOf K size) = false)
    (hal : alikeTo s.L (K + M) (K + M) = true) (hen : K ≤ (thereTo s.L (K + M)).length) (hln : len0 s.L (K + M) = lenOf K size) :
    Calls Tryd.prog 18 #[.agg #[.int .i64 K, .int .i64 M], .int .i64 size, .slice s.g (K + M) s.cap] w fun e w' => ∃ p c W, e = .returned (.tuple #[.slice p size c, .int .i64 0]) ∧ Kp (fun _ => False) w w' ∧
      El (fun r => gen K ((firstK s.L (K + M) K).getD r 0)) K K W ∧ ∃ F, Rb w' p size F ∧ ∀ i, i < size → F.getD i 0 = enc K (fun j q => prodTo (right W K) (fun j q => s.M ((firstK s.L (K + M) K).getD j 0) q) K j q) (seatK K i) (seatAt K i) := by
  obtain ⟨wa, hwa, ka, za, q1, q2⟩ := code_alloc w K M
  have HC : Hid (Calls _ _ _ wa _) := refLength_yes K M size wa h1 h3 hsz
  have hsb : (stripesOf K size : Int) ≤ 50 := by have := quot_le (K := K) (size := size) (by omega) (by omega); unfold stripesOf; omega
  have hs1 : (1 : Int) ≤ (stripesOf K size : Int) := by unfold stripesOf; omega
  have HE : Hid (size ≤ stripesOf K size * K * 8) := by
    show _ ≤ _
    exact stripes_enough (by omega)
  obtain ⟨Q, hQ⟩ : ∃ x, x = stripesOf K size := ⟨_, rfl⟩
  have hNQ : lenOf K size = 8 * Q := by unfold lenOf; omega
  rw [hNQ] at HC hno hln
  rw [← hQ] at hsb hs1 HE
  clear hQ hNQ
  have dN : (8 * (Q : Int) == 0) = false := beq_eq_false_iff_ne.2 (by omega)
  have hneq : ((K : Int) + (M : Int) != (K : Int) + (M : Int)) = false := bne_self_eq_false _
  have HNO : Hid (∀ r, r < K + M → oddLen (s.L r) (8 * Q) = false) := hno
  have HD : Hid (∀ w', Kp (fun _ => False) w w' → Calls _ _ _ w' _) := fun w' k' => refDecode_yesC K M s w' (hs.keep k') hG h1 h3 hal hen (by rw [hln]; omega)
  have HLn : Hid (len0 s.L (K + M) = 8 * Q) := hln
  rw [hs.at0 (by omega)] at HD ⊢
  have hcst : ((8 * Q : Nat) : Int) = 8 * (Q : Int) := by omega
  clear hno hal hen hln
  go_enter Tryd.func18, Tryd.ntmps18
  go_wp2_with fail
  rw [← hwa]
  refine HC.out.mono ?_
  rintro e w1 ⟨rfl, k1⟩
  have r1 := k1.cellv q1 id
  have r2 := k1.cellv q2 id
  have kk := ka.trans k1 (fun _ _ e => e)
  clear hwa q1 q2 HC
  rw [hcst]
  go_wp2
  go_loopg [33] (K + M) (fun gk i wr => ∃ k : Nat, k ≤ K + M ∧ gk = K + M - k ∧ i = .int .i64 k ∧ wr = w1)
  case atStart => exact ⟨0, Nat.zero_le _, rfl, rfl, rfl⟩
  case round =>
    obtain ⟨k, hk, rfl, rfl, hwr⟩ := hrel
    obtain rfl := hwr.symm
    by_cases hlt : (k : Int) < (K : Int) + (M : Int)
    · have c1 := kk.cellv (hs.hd k (by omega)) id
      by_cases h0 : s.L k = 0
      · have d0 : ((s.L k : Int) != 0) = false := by rw [h0]; rfl
        clear h0
        go_wp2
        go_roundg (K + M - (k + 1))
        case rel => exact ⟨k + 1, by omega, rfl, by go_num, rfl⟩
        case measure => omega
      · have d0 : ((s.L k : Int) != 0) = true := bne_iff_ne.2 (by omega)
        have h2 : s.L k = 8 * Q := by
          have := HNO.out k (by omega)
          simp [oddLen] at this
          omega
        have d2 : ((s.L k : Int) != 8 * (Q : Int)) = false := by rw [h2, hcst]; exact bne_self_eq_false _
        clear h0 h2
        go_wp2
        go_roundg (K + M - (k + 1))
        case rel => exact ⟨k + 1, by omega, rfl, by go_num, rfl⟩
        case measure => omega
    · go_wp2_with fail
      refine (HD.out _ kk).mono ?_
      rintro e w2 ⟨v, W, rfl, k2, hE, hM⟩
      obtain ⟨q, rfl, hq, hqG, hqL, hqM, hqC⟩ := hM
      have hg := hq.at0 (by omega)
      have kk2 := kk.trans k2 (fun _ _ e => e)
      have c1 := k2.cellv r1 id
      have HEl : Hid (El _ _ _ W) := hE
      rw [HLn.out] at hqL
      have t1 : (8 * (Q : Int)).tdiv 8 = (Q : Int) := by rw [Int.mul_comm]; exact Int.mul_tdiv_cancel _ (by omega)
      rw [hg, hqG]
      clear HD r1 r2 hE
      obtain ⟨D, hD⟩ : ∃ D, D = q.M := ⟨_, rfl⟩
      have HDq : Hid (D = q.M) := hD
      have HDe : Hid (D = enc K (fun j q => prodTo (right W K) (fun j q => s.M ((firstK s.L (K + M) K).getD j 0) q) K j q)) := by rw [hD]; exact hqM
      have HDb : Hid (∀ i j, D i j < 256) := fun i j => by rw [hD]; exact hq.byte i j
      have HRow : Hid (∀ k, k < K → w2.cell? ⟨q.gb, q.go + k, none⟩ = some (.slice (q.A k) (8 * Q) (q.C k)) ∧ 8 * Q ≤ q.C k ∧ Rb w2 (q.A k) (8 * Q) ((List.range (8 * Q)).map (D k))) := fun k hk => by
        have hkG : k < q.G := by omega
        have hc := hq.hd k hkG
        rw [hqL k (by omega)] at hc
        refine ⟨hc, by have := hqC k (by omega); rw [hqL k (by omega)] at this; exact this, by simp, fun x hx => by obtain ⟨j, _, rfl⟩ := List.mem_map.1 hx; exact HDb.out k j, fun j hj => ⟨q.RB k, q.RO k, hq.to k hkG j (by rw [hqL k (by omega)]; exact hj), ?_⟩⟩
        rw [hq.cell k hkG j (by rw [hqL k (by omega)]; exact hj), List.getD_eq_getElem?_getD, List.getElem?_map, List.getElem?_range hj, hD]; rfl
      clear hq hqG hqL hqM hqC hg hD
      go_wp2
      go_loopg [13, 58] Q (fun gk v x wr => ∃ (t : Nat) (v' : Value), t ≤ Q ∧ gk = Q - t ∧ x = .int .i64 t ∧ v' = v ∧ Kp (fun _ => False) w2 wr ∧ Ow wr w2.heap.size v' (gat K D (t * K * 8)))
      case atStart => exact ⟨0, _, Nat.zero_le _, rfl, rfl, rfl, Kp.refl _ _, by rw [show 0 * K * 8 = 0 from by omega]; exact World.ownsRow_nil _ _ _ _⟩
      case round =>
        obtain ⟨t, v, ht, rfl, rfl, rfl, kr, hO⟩ := hrel
        obtain ⟨wr0, rfl⟩ : ∃ x, x = wr := ⟨_, rfl⟩
        by_cases hlt2 : (t : Int) < (Q : Int)
        · have cK := kr.cellv c1 id
          go_wp2
          go_loopg [13, 63] K (fun gk v x wr => ∃ (k : Nat) (v' : Value), k ≤ K ∧ gk = K - k ∧ x = .int .i64 k ∧ v' = v ∧ Kp (fun _ => False) w2 wr ∧ Ow wr w2.heap.size v' (gat K D ((t * K + k) * 8)))
          case atStart => exact ⟨0, _, Nat.zero_le _, rfl, rfl, rfl, kr, hO⟩
          case round =>
            clear hO kr cK
            obtain ⟨k, v, hk, rfl, rfl, rfl, kr, hO⟩ := hrel
            have cK := kr.cellv c1 id
            by_cases hlk : (k : Int) < (K : Int)
            · obtain ⟨rc, rC, rr0⟩ := HRow.out k (by omega)
              have f1 := kr.cellv rc id
              have s1 := slice_lh (q.A k) (8 * Q) (q.C k) (8 * t) (8 * t + 8) (by omega) (by omega)
              have rr := (rr0.keep0 kr).part rC (l := 8 * t) (r := 8 * t + 8) (by omega) (by omega)
              rw [cut8 (D k) (by omega)] at rr
              obtain ⟨pp, hpp⟩ : ∃ pp, pp = if q.C k = 8 * t then q.A k else (q.A k).map (·.add (8 * t * 1)) := ⟨_, rfl⟩
              rw [← hpp] at s1 rr
              have e8 : 8 * t + 8 - 8 * t = 8 := by omega
              rw [e8] at s1 rr
              rw [show ((8 * t + 8 : Nat) : Int) = 8 * (t : Int) + 8 from by omega, show ((8 * t : Nat) : Int) = 8 * (t : Int) from by omega] at s1
              obtain ⟨cc, hcc⟩ : ∃ cc, cc = q.C k - 8 * t := ⟨_, rfl⟩
              rw [← hcc] at s1
              have HRr : Hid (Rb wr pp 8 ((List.range 8).map fun x => D k (8 * t + x))) := rr
              have HO : Hid (Ow wr w2.heap.size v (gat K D ((t * K + k) * 8))) := hO
              have hPb : (t * K + k) * 8 ≤ 102000 := by
                have : t * K ≤ 49 * 255 := Nat.mul_le_mul (by omega) (by omega)
                omega
              have hkM : (k : Int) < (K : Int) + (M : Int) := by omega
              have hzr := kr.size
              have HStep : Hid (∀ v3 w3, Ow w3 w2.heap.size v3 (gat K D ((t * K + k) * 8) ++ (List.range 8).map fun x => D k (8 * t + x)) → Kp (fun b => v.ownBlock = some b) wr w3 → Kp (fun _ => False) w2 w3 ∧ Ow w3 w2.heap.size v3 (gat K D ((t * K + (k + 1)) * 8))) := fun v3 w3 o3 k3 => by
                refine ⟨Kp.app kr HO.out k3, ?_⟩
                rw [show (t * K + (k + 1)) * 8 = (t * K + k) * 8 + 8 from by omega, gat_add D (by omega)]
                exact o3
              clear hpp hcc e8 rr rr0 rc rC hO
              go_wp2_with (at_builtin; go_must (refine Bl.wpList_append_bytes _ rfl _ _ rfl w2.heap.size v (gat K D ((t * K + k) * 8)) rfl HO.out pp 8 cc _ rfl HRr.out (by rw [gat_length]; omega) hzr ?_); intro v3 w3 o3 k3 hat3)
              obtain ⟨y1, y2⟩ := HStep.out v3 w3 o3 k3
              clear o3 k3 hat3 HStep HO HRr
              go_roundg (K - (k + 1))
              case rel => exact ⟨k + 1, v3, by omega, rfl, by go_num, rfl, y1, y2⟩
              case measure => omega
            · have e : K = k := by omega
              subst e
              have HO : Hid (Ow wr w2.heap.size v (gat K D ((t + 1) * K * 8))) := by rw [Nat.add_mul, Nat.one_mul]; exact hO
              clear hO
              go_wp2
              go_roundg (Q - (t + 1))
              case rel => exact ⟨t + 1, v, by omega, rfl, by go_num, rfl, kr, HO.out⟩
              case measure => omega
        · have e : Q = t := by omega
          subst e
          obtain ⟨p, c, ev, hc, rb, _⟩ := hO.rb (gat_byte HDb.out _)
          rw [gat_length] at ev hc rb
          subst ev
          have s1 := slice_first p (Q * K * 8) c size (by have := HE.out; omega)
          have HR : Hid (Rb wr0 p size ((gat K D (Q * K * 8)).take size)) := rb_take rb HE.out
          have HF : Hid (∀ i, i < size → ((gat K D (Q * K * 8)).take size).getD i 0 = D (seatK K i) (seatAt K i)) := fun i hi => by
            rw [← gat_get K D (Q * K * 8) (i := i) (by have := HE.out; omega), List.getD_eq_getElem?_getD, List.getD_eq_getElem?_getD, List.getElem?_take_of_lt hi]
          have kf := kk2.trans kr (fun _ _ e => e)
          clear rb hc hO
          go_wp2
          go_ret2
          refine ⟨p, ⟨c, rfl⟩, kf, W, HEl.out, _, HR.out, fun i hi => ?_⟩
          exact (HF.out i hi).trans (congrFun (congrFun HDe.out _) _)
end Go.Proofs.YtbmhfclknilcoaaDoor
