/- The walk of the law's small: texts cut short, in memory of their own. -/
import Derived.Test.YtbmhfclknilcoaaDoorR7
import Derived.Test.YtbmhfclknilcoaaDoorFx
namespace Go.Proofs.YtbmhfclknilcoaaDoor
open Go.RowKit Go.Deep

theorem Own.lower {w w0 w' : World} {s : Sh} (h : Own w w' s) (hle : w0.heap.size ≤ w.heap.size) : Own w0 w' s :=
  ⟨h.rd, h.lc, h.cap, h.off, fun x => Nat.le_trans hle (h.top x), fun j a b => ⟨(h.row j a b).1, Nat.le_trans hle (h.row j a b).2.1, (h.row j a b).2.2⟩, h.inj, h.ne⟩

set_option maxRecDepth 100000 in
set_option maxHeartbeats 1600000 in
theorem small_some (K M : Int) (s : Sh) (w : World) (hs : Rd w s) (h0 : 0 < s.G) (hcap : s.G ≤ s.cap) (hlc : ∀ r, r < s.G → s.L r ≤ s.C r) (hG : Hid (s.G * 24 ≤ 140737488355328)) :
    Calls Tryd.prog 5 #[.agg #[.int .i64 K, .int .i64 M], .slice s.g s.G s.cap] w fun e w' => ∃ g cap gb A C RB, e = .returned (.slice g (min s.G 40) cap) ∧ Kp (fun _ => False) w w' ∧ Own w w' ⟨g, min s.G 40, cap, gb, 0, A, fun r => min (s.L r) 24, C, RB, fun _ => 0, s.M⟩ := by
  obtain ⟨ti, hi0, hz0, hz1, hz2⟩ := info_parts info42
  have hGb : (s.G : Int) ≤ 10000000000000 := by have := hG.out; omega
  rw [hs.at0 h0]
  have hc1 : (s.G : Int) ≤ (s.cap : Int) := by omega
  obtain ⟨n, hn⟩ : ∃ n, n = min s.G 40 := ⟨_, rfl⟩
  have hmin : (if (40 : Int) < (s.G : Int) then 40 else (s.G : Int)) = (n : Int) := by split <;> omega
  have hn1 : (n : Int) ≤ (s.cap : Int) := by omega
  have hn2 : (n : Int) ≤ 40 := by omega
  rw [← hn]
  go_enter Tryd.func5, Tryd.ntmps5
  have HN : Hid (n = min s.G 40) := hn
  have Hlc : Hid (∀ r, r < s.G → s.L r ≤ s.C r) := hlc
  have hnG : (n : Int) ≤ (s.G : Int) := by omega
  obtain ⟨s2, hs2⟩ : ∃ x : Sh, x = ⟨none, n, n, 0, 0, fun _ => none, fun r => min (s.L r) 24, fun _ => 0, fun _ => 0, fun _ => 0, s.M⟩ := ⟨_, rfl⟩
  have HL2 : Hid (∀ k, s2.L k = min (s.L k) 24) := fun k => by rw [hs2]
  have HM2 : Hid (s2.M = s.M) := by rw [hs2]; rfl
  have HG2 : Hid (s2.G = n) := by rw [hs2]; rfl
  have HLs : Hid (s2.L = fun r => min (s.L r) 24) := by rw [hs2]; rfl
  obtain ⟨wa, hwa⟩ : ∃ x, x = w.alloc (.cells #[.int .i64 K, .int .i64 M] 23) := ⟨_, rfl⟩
  have k0 : Kp (fun _ => False) w wa := by rw [hwa]; exact (Kp.refl _ _).alloc _
  clear hn hlc hs2 hcap
  go_wp2
  rw [← hwa]
  clear hwa
  go_loopg [5, 14] n (fun gk v i wr => ∃ (k : Nat) (A : Nat → Option Addr) (C RB : Nat → Nat), k ≤ n ∧ gk = n - k ∧ i = .int .i64 k ∧ TxA wa wr s2 v k A C RB)
  case atStart => exact ⟨0, _, _, _, Nat.zero_le _, rfl, rfl, TxA.start wa s2⟩
  case round =>
    obtain ⟨k, A, C, RB, hk, rfl, rfl, hT⟩ := hrel
    by_cases hlt : (k : Int) < (n : Int)
    · have c1 := hT.kept.cellv (k0.cellv (hs.hd k (by omega)) id) id
      have hO := hT.own
      have hwz := hT.kept.size
      obtain ⟨m, hm⟩ : ∃ m, m = min (s.L k) 24 := ⟨_, rfl⟩
      have Hm : Hid (m = s2.L k) := by show _ = _; rw [HL2.out]; exact hm
      have hmif : (if (24 : Int) < (s.L k : Int) then 24 else (s.L k : Int)) = (m : Int) := by split <;> omega
      have hlck := Hlc.out k (by omega)
      have hmC : (m : Int) ≤ (s.C k : Int) := by omega
      have hm24 : (m : Int) ≤ 24 := by omega
      have HCl : Hid (∀ p, s.A k = some p → ∀ c, Calls Tryd.prog 20 #[.slice (some p) m c] wr fun e w' => ∃ v, e = .returned v ∧ Kp (fun _ => False) wr w' ∧ w'.ownsRow wr.heap.size 5 1 v m (vals (s.M k) m)) := fun p hp c =>
        clone_some p m c (s.M k) wr (fun j hj => by
          have e := hs.to k (by omega) j (by omega)
          rw [hp] at e
          obtain rfl := Option.some.inj e
          rw [addr_add]
          exact hT.kept.cellv (k0.cellv (hs.cell k (by omega) j (by omega)) id) id) (show Hid (m ≤ 140737488355328) from (by show m ≤ _; omega))
      have HT : Hid (TxA wa wr _ _ _ _ _ _) := hT
      have HA0 : Hid (s.A k = none → m = 0 ∧ s.L k = 0) := fun hA => by
        rcases Nat.eq_zero_or_pos (s.L k) with h | h
        · exact ⟨by omega, h⟩
        · have := hs.to k (by omega) 0 h; rw [hA] at this; simp at this
      clear hT hm hlck
      cases hA : s.A k with
      | none =>
        rw [hA] at c1
        obtain ⟨rfl, hl0⟩ := HA0.out hA
        rw [hl0] at c1
        clear HCl HA0 hmif hl0
        go_wp2_with fail
        refine (clone_none _ wr).mono ?_
        rintro e wq ⟨rfl, hwq0⟩
        obtain rfl := hwq0.symm
        have kq := Kp.refl (fun _ => False) wr
        have hOq := hO
        clear c1 hO
        go_wp2_with (at_builtin; go_must (refine wpList_append_own_at _ rfl _ _ 24 rfl wa.heap.size 30 ti (.slice none 0 0) 1 24 Tryd.underlying24 hi0 hz0 hz1 hz2 rfl (by decide) _ _ _ rfl (hOq.alloc _) ⟨wr.heap.size, 0, none⟩ 1 1 [.slice none 0 0] rfl rfl (cell_one_new _ _ _) (fun x hx => by simp at hx; subst hx; rfl) (by unfold maxLen; omega) (by omega) (by simp; omega) ?_); intro v' w3 hown' hgrow3 hnil3 hblk3)
        go_roundg (n - (k + 1))
        case rel => exact ⟨k + 1, _, _, _, by omega, rfl, by go_num, HT.out.step kq (p := none) (c := 0) (b := 0) (fun h => by have := Hm.out; omega) (by rw [← Hm.out]; exact hown') hgrow3 hblk3⟩
        case measure => omega
      | some p =>
        obtain ⟨pb, po, ps⟩ := p
        rw [hA] at c1
        have HC := HCl.out _ hA
        have HC2 : Hid (∀ c, Calls _ _ #[.slice _ _ c] wr _) := HC
        clear HC HCl
        go_wp2_with fail
        refine (HC2.out _).mono ?_
        rintro e wq ⟨v, rfl, kq, hown⟩
        obtain ⟨p, c', b, rfl, hrow⟩ := own_row hown
        have HR : Hid (0 < s2.L k → p = some ⟨b, 0, none⟩ ∧ wr.heap.size ≤ b ∧ s2.L k ≤ c' ∧ RowB wq b c' (s2.L k) (s2.M k)) := by
          show 0 < s2.L k → _
          rw [← Hm.out, HM2.out]; exact hrow
        clear hrow hown HC2
        have hOq := ownsRow_keep hO kq
        have hwq := kq.size
        clear c1 hO hmif
        go_wp2_with (at_builtin; go_must (refine wpList_append_own_at _ rfl _ _ 24 rfl wa.heap.size 30 ti (.slice none 0 0) 1 24 Tryd.underlying24 hi0 hz0 hz1 hz2 rfl (by decide) _ _ _ rfl (hOq.alloc _) ⟨wq.heap.size, 0, none⟩ 1 1 [.slice p m c'] rfl rfl (cell_one_new _ _ _) (fun x hx => by simp at hx; subst hx; rfl) (by unfold maxLen; omega) (by omega) (by simp; omega) ?_); intro v' w3 hown' hgrow3 hnil3 hblk3)
        go_roundg (n - (k + 1))
        case rel => exact ⟨k + 1, _, _, _, by omega, rfl, by go_num, HT.out.step kq HR.out (by rw [← Hm.out]; exact hown') hgrow3 hblk3⟩
        case measure => omega
    · have e : k = n := by omega
      have hb : ∀ r c, s2.M r c < 256 := fun r c => by rw [HM2.out]; exact hs.byte _ _
      have hkp := k0.trans hT.kept (fun _ _ e => e)
      rw [show k = s2.G by rw [HG2.out]; exact e] at hT
      obtain ⟨g, cap, gb, hv, hOw⟩ := hT.done hb
      rw [HG2.out] at hv hOw
      rw [HM2.out, HLs.out] at hOw
      have HOw : Hid (Own w wr ⟨g, n, cap, gb, 0, A, fun r => min (s.L r) 24, C, RB, fun _ => 0, s.M⟩) := hOw.lower k0.size
      subst hv
      clear hT hOw hs hb
      go_wp2
      go_ret
      exact ⟨g, cap, rfl, hkp, gb, A, C, RB, HOw.out⟩

set_option maxRecDepth 100000 in
set_option maxHeartbeats 1600000 in
theorem small_none (K M : Int) (s : Sh) (w : World) (hs : Rd w s) (h0 : s.G = 0) :
    Calls Tryd.prog 5 #[.agg #[.int .i64 K, .int .i64 M], .slice s.g s.G s.cap] w fun e w' => ∃ g cap gb A C RB, e = .returned (.slice g (min s.G 40) cap) ∧ Kp (fun _ => False) w w' ∧ Own w w' ⟨g, min s.G 40, cap, gb, 0, A, fun r => min (s.L r) 24, C, RB, fun _ => 0, s.M⟩ := by
  obtain ⟨wa, hwa⟩ : ∃ x, x = w.alloc (.cells #[.int .i64 K, .int .i64 M] 23) := ⟨_, rfl⟩
  have k0 : Kp (fun _ => False) w wa := by rw [hwa]; exact (Kp.refl _ _).alloc _
  have HO : Hid (Own w wa ⟨none, 0, 0, 0, 0, fun _ => none, fun r => min (s.L r) 24, fun _ => 0, fun _ => 0, fun _ => 0, s.M⟩) :=
    ⟨⟨fun h => absurd h (Nat.lt_irrefl _), fun r h => absurd h (Nat.not_lt_zero _), fun r h => absurd h (Nat.not_lt_zero _), fun r h => absurd h (Nat.not_lt_zero _), hs.byte⟩, fun r h => absurd h (Nat.not_lt_zero _), Nat.le_refl _, rfl, fun h => absurd h (Nat.lt_irrefl _), fun r h => absurd h (Nat.not_lt_zero _), fun r _ h => absurd h (Nat.not_lt_zero _), fun r h => absurd h (Nat.not_lt_zero _)⟩
  rw [h0, show min 0 40 = 0 from rfl]
  clear hs h0
  cases hg : s.g with
  | none =>
    go_enter Tryd.func5, Tryd.ntmps5
    go_wp2
    rw [← hwa]
    clear hwa
    go_loopg [5, 14] 0 (fun gk v i wr => gk = 0 ∧ v = .slice none 0 0 ∧ i = .int .i64 0 ∧ wr = wa)
    case atStart => exact ⟨rfl, rfl, rfl, rfl⟩
    case round =>
      obtain ⟨rfl, rfl, rfl, rfl⟩ := hrel
      go_wp2
      go_ret
      exact ⟨none, 0, 0, _, _, _, rfl, k0, HO.out⟩
  | some p =>
    obtain ⟨pb, po, ps⟩ := p
    go_enter Tryd.func5, Tryd.ntmps5
    go_wp2
    rw [← hwa]
    clear hwa
    go_loopg [5, 14] 0 (fun gk v i wr => gk = 0 ∧ v = .slice none 0 0 ∧ i = .int .i64 0 ∧ wr = wa)
    case atStart => exact ⟨rfl, rfl, rfl, rfl⟩
    case round =>
      obtain ⟨rfl, rfl, rfl, rfl⟩ := hrel
      go_wp2
      go_ret
      exact ⟨none, 0, 0, _, _, _, rfl, k0, HO.out⟩

theorem small_any (K M : Int) (v : Value) (s : Sh) (w : World) (h : Tw w v s) :
    Calls Tryd.prog 5 #[.agg #[.int .i64 K, .int .i64 M], v] w fun e w' => ∃ g cap gb A C RB, e = .returned (.slice g (min s.G 40) cap) ∧ Kp (fun _ => False) w w' ∧ Own w w' ⟨g, min s.G 40, cap, gb, 0, A, fun r => min (s.L r) 24, C, RB, fun _ => 0, s.M⟩ := by
  obtain rfl := h.val
  rcases Nat.eq_zero_or_pos s.G with h0 | h0
  · exact small_none K M s w h.rd h0
  · exact small_some K M s w h.rd h0 h.cap h.lc h.big
end Go.Proofs.YtbmhfclknilcoaaDoor
