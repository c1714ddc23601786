/- The reference's some: which shards are there. -/
import Derived.Test.YtbmhfclknilcoaaDoorR7
import Derived.Test.YtbmhfclknilcoaaDoorMgAJ
import Derived.Test.YtbmhfclknilcoaaDoorMgAI
namespace Go.Proofs.YtbmhfclknilcoaaDoor
open Go.RowKit Go.Deep

theorem thereTo_prefix (L : Nat → Nat) {k n : Nat} (h : k ≤ n) : ∃ r, thereTo L n = thereTo L k ++ r := by
  induction n with
  | zero => exact ⟨[], by rw [show k = 0 from by omega]; simp⟩
  | succ n ih =>
    by_cases e : k = n + 1
    · subst e; exact ⟨[], by simp⟩
    · obtain ⟨r, hr⟩ := ih (by omega)
      rw [thereTo_succ, hr]
      split
      · exact ⟨r ++ [n], by rw [List.append_assoc]⟩
      · exact ⟨r, rfl⟩
/-- the first that is there is so for good -/
theorem len0_of {L : Nat → Nat} {k n : Nat} (h : k ≤ n) (hne : thereTo L k ≠ []) : len0 L n = L ((thereTo L k).headD 0) := by
  unfold len0
  obtain ⟨r, hr⟩ := thereTo_prefix L h
  rw [hr]
  cases hx : thereTo L k with
  | nil => exact absurd hx hne
  | cons a b => rfl
theorem len0_first {L : Nat → Nat} {k n : Nat} (h : k < n) (h0 : thereTo L k = []) (hk : 0 < L k) : len0 L n = L k := by
  have h1 : thereTo L (k + 1) = [k] := by rw [thereTo_succ, if_pos hk, h0]; rfl
  rw [len0_of (k := k + 1) (by omega) (by rw [h1]; simp), h1]; rfl
set_option maxRecDepth 100000 in
set_option maxHeartbeats 1600000 in
theorem refSome_yes (K M : Nat) (s : Sh) (w : World) (hs : Rd w s) (hG : s.G = K + M) (h1 : 1 ≤ (K : Int)) (h3 : (M : Int) ≤ 255 - (K : Int)) :
    Calls Tryd.prog 23 #[.agg #[.int .i64 K, .int .i64 M], .slice s.g (K + M) s.cap] w fun e w' => Kp (fun _ => False) w w' ∧
      ((alikeTo s.L (K + M) (K + M) = false ∧ e = .returned (.tuple #[.slice none 0 0, .bool false])) ∨
       (alikeTo s.L (K + M) (K + M) = true ∧ ∃ v, e = .returned (.tuple #[v, .bool true]) ∧ Sel w w' v (thereTo s.L (K + M)))) := by
  obtain ⟨ti, hi0, hz0, hz1, hz2⟩ := info_parts infoInt
  obtain ⟨wa, hwa, ka, za, q1, q2⟩ := code_alloc w K M
  have HC : Hid (Calls _ _ _ wa _) := refCan_yes K M wa h1 (by omega) h3
  have hgs := hs.at0 (by omega)
  rw [hgs]
  obtain ⟨n, hn⟩ : ∃ n, n = K + M := ⟨_, rfl⟩
  have hnb : (n : Int) ≤ 255 := by omega
  have hn1 : (1 : Int) ≤ (n : Int) := by omega
  have hnn : ((K : Int) + (M : Int)) = (n : Int) := by omega
  rw [← hn]
  have HS : Hid (Rd w s) := hs
  have HG : Hid (s.G = n) := by rw [hG, ← hn]; exact rfl
  have hne : ((n : Int) != (n : Int)) = false := bne_self_eq_false _
  clear hs hG hn
  go_enter Tryd.func23, Tryd.ntmps23
  go_wp2_with fail
  rw [← hwa]
  refine HC.out.mono ?_
  rintro e w1 ⟨rfl, k1⟩
  have r1 := k1.cellv q1 id
  have r2 := k1.cellv q2 id
  have kk := ka.trans k1 (fun _ _ e => e)
  clear hwa q1 q2 HC
  go_wp2
  go_loopg [6, 24] n (fun gk v x wr => ∃ (k : Nat) (v' : Value), k ≤ n ∧ gk = n - k ∧ x = .int .i64 k ∧ v' = v ∧ Sel w wr v' (thereTo s.L k) ∧ Hid (∀ r, r < k → s.L r = 0 ∨ s.L r = len0 s.L n))
  case atStart => exact ⟨0, _, Nat.zero_le _, rfl, rfl, rfl, (Sel.start w).keep kk, fun r hr => by omega⟩
  case round =>
    obtain ⟨k, v, hk, rfl, rfl, rfl, hSel, HAl⟩ := hrel
    have kw := hSel.kept
    by_cases hlt : (k : Int) < (n : Int)
    · have c1 := kw.cellv (HS.out.hd k (by rw [HG.out]; omega)) id
      have hth := thereTo_succ s.L k
      by_cases hL : s.L k = 0
      · have hl0 : ((s.L k : Int) == 0) = true := by rw [hL]; rfl
        have HSel : Hid (Sel w wr v (thereTo s.L (k + 1))) := by rw [hth, if_neg (by omega)]; exact hSel
        have HAl2 : Hid (∀ r, r < k + 1 → s.L r = 0 ∨ s.L r = len0 s.L n) := fun r hr => by
          by_cases e : r = k
          · subst e; exact Or.inl hL
          · exact HAl.out r (by omega)
        clear hth hL HAl hSel
        go_wp2
        go_roundg (n - (k + 1))
        case rel => exact ⟨k + 1, v, by omega, rfl, by go_num, rfl, HSel.out, HAl2.out⟩
        case measure => omega
      · have hl0 : ((s.L k : Int) == 0) = false := by rw [beq_eq_false_iff_ne]; omega
        have hth2 : thereTo s.L (k + 1) = thereTo s.L k ++ [k] := by rw [hth, if_pos (by omega)]
        have hxl := thereTo_le s.L k
        have hO := hSel.own
        have hsz := kw.size
        obtain ⟨pa, ba, cv, rfl, hpa, hcell⟩ := hSel.ls
        have HNext : Hid (∀ v' w3, w3.ownsRow w.heap.size 3 1 v' ((thereTo s.L k).length + 1) (numsL (thereTo s.L k) ++ [.int .i64 (k : Int)]) → (wr.alloc (.cells #[.int .i64 (k : Int)] 3)).grownBy w3 (Value.ownBlock (.slice pa (thereTo s.L k).length cv)) → Sel w w3 v' (thereTo s.L (k + 1))) := fun v' w3 hown' hgrow3 => by
          rw [hth2]
          refine ⟨Kp.trans (kw.alloc _) (grownBy_kp hgrow3) (fun b hb e => by have := ownBlock_lt hO e; omega), ?_, ?_⟩
          · rw [List.length_append]; exact sel_own_value hown'
          · rw [List.length_append]
            unfold numsL at hown' ⊢
            rw [List.map_append]; exact hown'
        by_cases hx : thereTo s.L k = []
        · have HAl2 : Hid (∀ r, r < k + 1 → s.L r = 0 ∨ s.L r = len0 s.L n) := fun r hr => by
            by_cases e : r = k
            · subst e; exact Or.inr (len0_first (by omega) hx (by omega)).symm
            · exact HAl.out r (by omega)
          have hlen0 : (thereTo s.L k).length = 0 := by rw [hx]; rfl
          have HO : Hid (wr.ownsRow w.heap.size 3 1 (.slice pa (thereTo s.L k).length cv) (thereTo s.L k).length (numsL (thereTo s.L k))) := hO
          rw [hlen0] at HO HNext ⊢
          clear hth hth2 hL HAl hSel hO hpa hcell hx hlen0 hxl
          go_wp2_with (at_builtin; go_must (refine wpList_append_own_at _ rfl _ _ 43 rfl w.heap.size 3 ti (.int .i64 0) 1 8 Tryd.underlying43 hi0 hz0 hz1 hz2 rfl (by decide) _ _ _ rfl (HO.out.alloc _) ⟨wr.heap.size, 0, none⟩ 1 1 [.int .i64 (k : Int)] rfl rfl (cell_one_new _ _ _) (fun x hx => by simp at hx; subst hx; rfl) (by unfold maxLen; omega) (by omega) (by simp; omega) ?_); intro v' w3 hown' hgrow3 hnil3 hblk3)
          have HSel := HNext.out v' w3 hown' hgrow3
          clear hown' hgrow3 hnil3 hblk3
          go_roundg (n - (k + 1))
          case rel => exact ⟨k + 1, v', by omega, rfl, by go_num, rfl, HSel, HAl2.out⟩
          case measure => omega
        · obtain ⟨rfl, hb1, hb2, hb3⟩ := hpa hx
          have hpos : 0 < (thereTo s.L k).length := List.length_pos_iff.2 hx
          obtain ⟨h, hh⟩ : ∃ h, h = (thereTo s.L k).getD 0 0 := ⟨_, rfl⟩
          have hmem : h ∈ thereTo s.L k := by rw [hh]; exact getD_mem hpos
          have hhk := thereTo_mem.1 hmem
          have c2 := hcell 0 hpos
          rw [← hh, Nat.add_zero] at c2
          have c3 := kw.cellv (HS.out.hd h (by rw [HG.out]; omega)) id
          have hl0n : len0 s.L n = s.L h := by
            rw [len0_of (k := k) (by omega) hx, hh]
            cases hxx : thereTo s.L k with
            | nil => exact absurd hxx hx
            | cons a b => rfl
          have HO : Hid (wr.ownsRow w.heap.size 3 1 (.slice (some ⟨ba, 0, none⟩) (thereTo s.L k).length cv) (thereTo s.L k).length (numsL (thereTo s.L k))) := hO
          obtain ⟨m, hm⟩ : ∃ m, m = (thereTo s.L k).length := ⟨_, rfl⟩
          rw [← hm] at HO HNext hpos hxl ⊢
          have hmi : (0 : Int) < (m : Int) := by omega
          have hhn : (h : Int) < (n : Int) := by omega
          by_cases hq : s.L k = s.L h
          · have d5 : ((s.L k : Int) != (s.L h : Int)) = false := by rw [hq]; exact bne_self_eq_false _
            have HAl2 : Hid (∀ r, r < k + 1 → s.L r = 0 ∨ s.L r = len0 s.L n) := fun r hr => by
              by_cases e : r = k
              · subst e; exact Or.inr (hq.trans hl0n.symm)
              · exact HAl.out r (by omega)
            clear hth hth2 hL HAl hSel hO hpa hcell hx hq hl0n hmem hhk hh hm hb3
            go_wp2_with (at_builtin; go_must (refine wpList_append_own_at _ rfl _ _ 43 rfl w.heap.size 3 ti (.int .i64 0) 1 8 Tryd.underlying43 hi0 hz0 hz1 hz2 rfl (by decide) _ _ _ rfl (HO.out.alloc _) ⟨wr.heap.size, 0, none⟩ 1 1 [.int .i64 (k : Int)] rfl rfl (cell_one_new _ _ _) (fun x hx => by simp at hx; subst hx; rfl) (by unfold maxLen; omega) (by omega) (by simp; omega) ?_); intro v' w3 hown' hgrow3 hnil3 hblk3)
            have HSel := HNext.out v' w3 hown' hgrow3
            clear hown' hgrow3 hnil3 hblk3
            go_roundg (n - (k + 1))
            case rel => exact ⟨k + 1, v', by omega, rfl, by go_num, rfl, HSel, HAl2.out⟩
            case measure => omega
          · have d5 : ((s.L k : Int) != (s.L h : Int)) = true := by rw [bne_iff_ne]; omega
            have HF : Hid (alikeTo s.L n n = false) := by
              show _ = _
              unfold alikeTo
              rw [decide_eq_false_iff_not]
              intro hall
              rcases hall k (by omega) with e | e
              · exact hL e
              · exact hq (e.trans hl0n)
            clear hth hth2 hL HAl hSel hO hpa hcell hx hq hl0n hmem hhk hh hm hb3 HO HNext
            go_wp2
            go_ret2
            exact ⟨kw, Or.inl ⟨HF.out, rfl⟩⟩
    · have e : n = k := by omega
      subst e
      have hal : alikeTo s.L n n = true := by unfold alikeTo; exact decide_eq_true HAl.out
      have HF : Hid (alikeTo s.L n n = true) := hal
      clear hal HAl
      go_wp2
      go_ret2
      exact ⟨kw, Or.inr ⟨HF.out, v, rfl, hSel⟩⟩
set_option maxRecDepth 100000 in
set_option maxHeartbeats 1600000 in
theorem refSome_no (K M : Int) (g : Option Addr) (G cap : Nat) (w : World) (h : ¬ ((1 ≤ K ∧ 0 ≤ M ∧ M ≤ 255 - K) ∧ (G : Int) = K + M)) :
    Calls Tryd.prog 23 #[.agg #[.int .i64 K, .int .i64 M], .slice g G cap] w fun e w' => e = .returned (.tuple #[.slice none 0 0, .bool false]) ∧ Kp (fun _ => False) w w' := by
  obtain ⟨wa, hwa, ka, za, q1, q2⟩ := code_alloc w K M
  by_cases hc : 1 ≤ K ∧ 0 ≤ M ∧ M ≤ 255 - K
  · have HC : Hid (Calls _ _ _ wa _) := refCan_yes K M wa hc.1 hc.2.1 hc.2.2
    have hne : ((G : Int) != K + M) = true := by rw [bne_iff_ne]; intro e; exact h ⟨hc, e⟩
    have b1 : 0 ≤ K := by omega
    have b2 : K ≤ 255 := by omega
    have b3 : 0 ≤ M := by omega
    have b4 : M ≤ 255 := by omega
    clear h hc
    go_enter Tryd.func23, Tryd.ntmps23
    go_wp2_with fail
    rw [← hwa]
    refine HC.out.mono ?_
    rintro e w1 ⟨rfl, k1⟩
    have r1 := k1.cellv q1 id
    have r2 := k1.cellv q2 id
    clear hwa q1 q2
    go_wp2
    go_ret2
    exact ⟨rfl, ka.trans k1 (fun _ _ e => e)⟩
  · have HC : Hid (Calls _ _ _ wa _) := refCan_no K M wa hc
    clear h hc
    go_enter Tryd.func23, Tryd.ntmps23
    go_wp2_with fail
    rw [← hwa]
    refine HC.out.mono ?_
    rintro e w1 ⟨rfl, k1⟩
    clear hwa q1 q2
    go_wp2
    go_ret2
    exact ⟨rfl, ka.trans k1 (fun _ _ e => e)⟩
end Go.Proofs.YtbmhfclknilcoaaDoor
