/- Heaps of shards that wait: Push, Pop, Remove. -/
import Derived.Test.YtnpaoppfhffoiaaJk
namespace Go.Proofs.Ytnpaoppfhffoiaa
set_option linter.unusedVariables false
open Go.RowKit Go.Deep Go.Maps

theorem upW_len : ∀ f l j, (upW f l j).length = l.length
  | 0, _, _ => rfl
  | f + 1, l, j => by
    rw [upW_succ]
    by_cases h : j = 0
    · rw [if_pos h]
    · rw [if_neg h]
      by_cases h2 : (l.getD j wt0).t < (l.getD ((j - 1) / 2) wt0).t
      · rw [if_pos h2, upW_len f, swW_len]
      · rw [if_neg h2]
theorem downW_len : ∀ f l i n, (downW f l i n).1.length = l.length
  | 0, _, _, _ => rfl
  | f + 1, l, i, n => by
    rw [downW_succ]
    by_cases h : n ≤ 2 * i + 1
    · rw [if_pos h]
    · rw [if_neg h]
      by_cases h2 : (l.getD (kidW l i n) wt0).t < (l.getD i wt0).t
      · rw [if_pos h2, downW_len f, swW_len]
      · rw [if_neg h2]
theorem upW_keep : ∀ f l j k, j < l.length → j < k → (upW f l j).getD k wt0 = l.getD k wt0
  | 0, _, _, _, _, _ => rfl
  | f + 1, l, j, k, hj, hk => by
    rw [upW_succ]
    by_cases h : j = 0
    · rw [if_pos h]
    · rw [if_neg h]
      by_cases h2 : (l.getD j wt0).t < (l.getD ((j - 1) / 2) wt0).t
      · rw [if_pos h2, upW_keep f _ _ k (by rw [swW_len]; omega) (by omega), swW_getD l _ j k (by omega) hj, if_neg (by omega), if_neg (by omega)]
      · rw [if_neg h2]
theorem last_perm {s : List Wt} {n : Nat} (h : s.length = n + 1) : (s.getD n wt0 :: s.take n).Perm s := by
  have e : s = s.take n ++ [s.getD n wt0] := by
    rw [getD_of_get (by omega)]
    conv => lhs; rw [← List.take_append_drop n s]
    rw [List.drop_eq_getElem_cons (by omega), List.drop_of_length_le (by omega)]
  have h2 := (List.perm_append_comm (l₁ := s.take n) (l₂ := [s.getD n wt0])).symm
  rw [← e] at h2
  exact h2
theorem Hpd.take {s : List Wt} {n : Nat} (h : Hpd s n) : Hpd (s.take n) n := fun k hk hkn => by
  unfold tm
  rw [getD_take hkn, getD_take (by omega)]
  exact h k hk hkn
theorem tm_append {l : List Wt} {e : Wt} {k : Nat} (h : k < l.length) : tm (l ++ [e]) k = tm l k := by
  unfold tm
  rw [List.getD_eq_getElem?_getD, List.getElem?_append_left h, ← List.getD_eq_getElem?_getD]

set_option maxRecDepth 100000 in
set_option maxHeartbeats 1600000 in
theorem hpush_ok {w : World} {h m : Nat} {v : Value} {l : List Wt} (x : Hw w h m v l) (hp : Hpd l l.length) (e : Wt) (hl : l.length ≤ 900) (hwf : wf2 e.b e.i) (hne : ∀ k, k < l.length → ¬ ((l.getD k wt0).b = e.b ∧ (l.getD k wt0).i = e.i)) :
    Calls Try.prog 42 #[.iface 52 (.pointer (some ⟨h, 0, none⟩)), .iface 65 (.agg #[.int .i64 e.b, .int .i64 e.i, .int .i64 e.t])] w fun r w' => r = .returned (.tuple #[]) ∧ Kp (Hs h m v) w w' ∧ ∃ v' l', Hw w' h m v' l' ∧ l'.Perm (l ++ [e]) ∧ Hpd l' l'.length ∧ (v'.ownBlock = v.ownBlock ∨ ∃ g, v'.ownBlock = some g ∧ w.heap.size ≤ g) := by
  have HE : Hid (Calls _ _ _ w _) := wpush_ok x e (by omega) hwf hne
  have HL : Hid (l.length ≤ 900 ∧ Hpd l l.length) := ⟨hl, hp⟩
  obtain ⟨av, hav⟩ : ∃ av : Value, av = .iface 65 (.agg #[.int .i64 e.b, .int .i64 e.i, .int .i64 e.t]) := ⟨_, rfl⟩
  rw [← hav] at HE ⊢
  have h1 := mPushW (.pointer (some ⟨h, 0, none⟩)) w
  clear x hl hav hp hwf hne
  go_enter Try.func42, Try.ntmps42
  go_wp2_with fail
  refine HE.out.mono ?_
  rintro r w1 ⟨rfl, k1, v1, x1, hb1⟩
  have hlen : (l ++ [e]).length = l.length + 1 := by rw [List.length_append]; rfl
  have h3 := mLenW (.pointer (some ⟨h, 0, none⟩)) w1
  have HE2 : Hid (Calls _ _ _ w1 _) := wlen_ok x1
  have HU : Hid (Calls _ _ _ w1 _) := wup x1 l.length (by rw [hlen]; omega) (by rw [hlen]; have := HL.out.1; omega)
  rw [hlen] at HE2
  obtain ⟨n, hn⟩ : ∃ n, n = l.length := ⟨_, rfl⟩
  rw [← hn] at HE2 HU
  have hw1 : wrap64 (((n + 1 : Nat) : Int) - 1) = (n : Int) := by have := HL.out.1; unfold wrap64; omega
  have hw2 : wrap64 (n : Int) = (n : Int) := by have := HL.out.1; unfold wrap64; omega
  have hw3 : wrap64 ((n : Int) + 1 - 1) = (n : Int) := by have := HL.out.1; unfold wrap64; omega
  have HN : Hid (n = l.length) := hn
  have HK1 : Hid (Kp (Hs h m v) w w1 ∧ (v1.ownBlock = v.ownBlock ∨ ∃ g, v1.ownBlock = some g ∧ w.heap.size ≤ g)) := ⟨k1, hb1⟩
  clear HE h1 k1 hb1 x1 hlen hn
  go_wp2_with fail
  refine HE2.out.mono ?_
  rintro r w2 ⟨rfl, hw2'⟩
  obtain rfl := hw2'
  clear h3 HE2
  go_wp2_with fail
  refine HU.out.mono ?_
  rintro r w3 ⟨rfl, k3, x3⟩
  have HF : Hid (Kp (Hs h m v) w w3 ∧ ∃ v' l', Hw w3 h m v' l' ∧ l'.Perm (l ++ [e]) ∧ Hpd l' l'.length ∧ (v'.ownBlock = v.ownBlock ∨ ∃ g, v'.ownBlock = some g ∧ w.heap.size ≤ g)) := by
    obtain ⟨kk, hb⟩ := HK1.out
    have hnn := HN.out
    have hll : (l ++ [e]).length = n + 1 := by rw [List.length_append, hnn]; rfl
    refine ⟨kk.trans k3 (fun b hb' e' => ?_), v1, _, x3, upW_perm _ _ _ (by omega), ?_, hb⟩
    · rcases e' with e' | e' | e'
      · exact Or.inl e'
      · exact Or.inr (Or.inl e')
      · rcases hb with hb | ⟨g, hb, hg⟩
        · exact Or.inr (Or.inr (hb ▸ e'))
        · rw [hb] at e'
          injection e' with e'
          omega
    · rw [upW_len]
      refine upW_heap (n + 1) _ n _ (by omega) (by omega) (Nat.le_refl _) (fun k hk hkn hne => ?_) (fun k hk hkn hkp _ => by omega)
      have h5 := HL.out.2
      rw [tm_append (by omega), tm_append (by omega)]
      exact h5 k hk (by omega)
  clear k3 x3 HU
  go_wp2
  go_end0
  exact ⟨rfl, HF.out⟩

set_option maxRecDepth 100000 in
set_option maxHeartbeats 1600000 in
theorem hpop_ok {w : World} {h m : Nat} {v : Value} {l : List Wt} (x : Hw w h m v l) (hp : Hpd l l.length) (h0 : 0 < l.length) (hl : l.length ≤ 900) :
    Calls Try.prog 45 #[.iface 52 (.pointer (some ⟨h, 0, none⟩))] w fun r w' => ∃ e : Wt, r = .returned (.iface 65 (.agg #[.int .i64 e.b, .int .i64 e.i, .int .i64 e.t])) ∧ e = l.getD 0 wt0 ∧ Kp (Hs h m v) w w' ∧ ∃ v' l', Hw w' h m v' l' ∧ (e :: l').Perm l ∧ Hpd l' l'.length ∧ v'.ownBlock = v.ownBlock := by
  obtain ⟨n, hn⟩ : ∃ n, l.length = n + 1 := ⟨l.length - 1, by omega⟩
  have HN : Hid (l.length = n + 1 ∧ n < 900 ∧ Hpd l l.length) := ⟨hn, by omega, hp⟩
  have h1 := mLenW (.pointer (some ⟨h, 0, none⟩)) w
  have HE1 : Hid (Calls _ _ _ w _) := wlen_ok x
  have h2 := mSwapW (.pointer (some ⟨h, 0, none⟩)) w
  have HE2 : Hid (Calls _ _ _ w _) := wswap_ok x 0 n (by omega) (by omega) (by omega)
  rw [hn] at HE1
  have hw1 : wrap64 (((n + 1 : Nat) : Int) - 1) = (n : Int) := by unfold wrap64; omega
  have hw2 : wrap64 (n : Int) = (n : Int) := by unfold wrap64; omega
  have hw3 : wrap64 ((n : Int) + 1 - 1) = (n : Int) := by unfold wrap64; omega
  clear x hl hn h0 hp
  go_enter Try.func45, Try.ntmps45
  go_wp2_with fail
  refine HE1.out.mono ?_
  rintro r w0 ⟨rfl, hw0⟩
  obtain rfl := hw0
  clear h1 HE1
  go_wp2_with fail
  refine HE2.out.mono ?_
  rintro r w1 ⟨rfl, k1, x1⟩
  have hl1 : (swW l 0 n).length = n + 1 := by rw [swW_len, HN.out.1]
  have HK1 : Hid (Kp (Hs h m v) w0 w1) := k1
  have HE3 : Hid (Calls _ _ _ w1 _) := wdown x1 0 n (Nat.zero_le _) (by omega) (by have := HN.out; omega)
  clear h2 HE2 k1 x1
  have HL1 : Hid ((swW l 0 n).length = n + 1) := hl1
  clear hl1
  go_wp2_with fail
  refine HE3.out.mono ?_
  rintro r w2 ⟨rfl, k2, x2⟩
  obtain ⟨s, hs⟩ : ∃ s, s = (downW (swW l 0 n).length (swW l 0 n) 0 n).1 := ⟨_, rfl⟩
  rw [← hs] at x2
  have hsl : s.length = n + 1 := by rw [hs, downW_len, HL1.out]
  have hnn := HN.out
  have hsn : s.getD n wt0 = l.getD 0 wt0 := by
    rw [hs]
    by_cases e : n = 0
    · subst e
      rw [HL1.out, downW_succ, if_pos (by omega), swW_getD l 0 0 0 (by omega) (by omega), if_pos rfl]
    · rw [downW_keep _ _ _ n n (by omega) (by rw [HL1.out]; omega) (Nat.le_refl _), swW_getD l 0 n n (by omega) (by omega), if_pos rfl]
  have hsp : s.Perm l := by
    rw [hs]
    by_cases e : n = 0
    · subst e
      rw [HL1.out, downW_succ, if_pos (by omega)]
      exact swW_perm l 0 0 (by omega) (by omega)
    · exact (downW_perm _ _ _ _ (by omega) (by rw [HL1.out]; omega)).trans (swW_perm l 0 n (by omega) (by omega))
  have hsh : Hpd s n := by
    by_cases e : n = 0
    · subst e; exact fun k hk hkn => by omega
    · have hh := downW_heap (swW l 0 n).length (swW l 0 n) 0 n (by rw [HL1.out]; omega) (by omega) (by rw [HL1.out]; omega) (fun k hk hkn hpk hk0 => by
        rw [tm_sw l 0 n k (by omega) (by omega), tm_sw l 0 n _ (by omega) (by omega), if_neg (by omega), if_neg (by omega), if_neg (by omega), if_neg (by omega)]
        exact hnn.2.2 k hk (by omega)) (fun k hk hkn hpk h0 => by omega)
      rw [hs]
      by_cases e2 : 0 < (downW (swW l 0 n).length (swW l 0 n) 0 n).2
      · exact hh.2.1 e2
      · obtain ⟨q1, q2⟩ := hh.2.2 e2
        rw [q1]
        exact fun k hk hkn => q2 k hk hkn (by omega)
  have HS : Hid (s.length = n + 1 ∧ s.getD n wt0 = l.getD 0 wt0 ∧ s.Perm l ∧ Hpd s n) := ⟨hsl, hsn, hsp, hsh⟩
  have HK2 : Hid (Kp (Hs h m v) w0 w2) := HK1.out.trans k2 (fun _ _ e => e)
  have h3 := mPopW (.pointer (some ⟨h, 0, none⟩)) w2
  have HE4 : Hid (Calls _ _ _ w2 _) := wpop_ok x2 n hsl (by omega)
  clear HE3 k2 x2 hsl hsn hsp hsh hnn hs
  obtain ⟨bb, hbb⟩ : ∃ bb, bb = decide (0 < (downW (swW l 0 n).length (swW l 0 n) 0 n).2) := ⟨_, rfl⟩
  rw [← hbb]
  clear hbb
  go_wp2_with fail
  refine HE4.out.mono ?_
  rintro r w3 ⟨rfl, k3, v3, x3, b3⟩
  have HF : Hid (Kp (Hs h m v) w0 w3 ∧ ∃ v' l', Hw w3 h m v' l' ∧ (s.getD n wt0 :: l').Perm l ∧ Hpd l' l'.length ∧ v'.ownBlock = v.ownBlock) := by
    obtain ⟨q1, q2, q3, q4⟩ := HS.out
    refine ⟨HK2.out.trans k3 (fun _ _ e => e), v3, _, x3, (last_perm q1).trans q3, ?_, b3⟩
    rw [List.length_take, q1, Nat.min_eq_left (by omega)]
    exact q4.take
  clear HE4 k3 x3 h3
  go_wp2
  go_ret
  exact ⟨_, rfl, HS.out.2.1, HF.out⟩

set_option maxRecDepth 100000 in
set_option maxHeartbeats 3200000 in
theorem hremove_ok {w : World} {h m : Nat} {v : Value} {l : List Wt} (x : Hw w h m v l) (hp : Hpd l l.length) (i : Nat) (hi : i < l.length) (hl : l.length ≤ 900) :
    Calls Try.prog 43 #[.iface 52 (.pointer (some ⟨h, 0, none⟩)), .int .i64 i] w fun r w' => (∃ u, r = .returned u) ∧ Kp (Hs h m v) w w' ∧ ∃ v' l', Hw w' h m v' l' ∧ (l.getD i wt0 :: l').Perm l ∧ Hpd l' l'.length ∧ v'.ownBlock = v.ownBlock := by
  obtain ⟨n, hn⟩ : ∃ n, l.length = n + 1 := ⟨l.length - 1, by omega⟩
  have HN : Hid (l.length = n + 1 ∧ n < 900 ∧ Hpd l l.length ∧ i ≤ n) := ⟨hn, by omega, hp, by omega⟩
  have HX : Hid (Hw w h m v l) := x
  have h1 := mLenW (.pointer (some ⟨h, 0, none⟩)) w
  have HE1 : Hid (Calls _ _ _ w _) := wlen_ok x
  have h2 := mSwapW (.pointer (some ⟨h, 0, none⟩)) w
  have HE2 : Hid (Calls _ _ _ w _) := wswap_ok x i n hi (by omega) (by omega)
  rw [hn] at HE1
  have hw1 : wrap64 (((n + 1 : Nat) : Int) - 1) = (n : Int) := by unfold wrap64; omega
  have hw2 : wrap64 (n : Int) = (n : Int) := by unfold wrap64; omega
  have hw3 : wrap64 ((n : Int) + 1 - 1) = (n : Int) := by unfold wrap64; omega
  -- what Pop is called upon
  have HFIN : Hid (∀ (s : List Wt) (w2 w3 : World) (v3 : Value), s.length = n + 1 → s.getD n wt0 = l.getD i wt0 → s.Perm l → Hpd s n → Kp (Hs h m v) w w2 → Kp (Hs h m v) w2 w3 → Hw w3 h m v3 (s.take n) → v3.ownBlock = v.ownBlock → Kp (Hs h m v) w w3 ∧ ∃ v' l', Hw w3 h m v' l' ∧ (l.getD i wt0 :: l').Perm l ∧ Hpd l' l'.length ∧ v'.ownBlock = v.ownBlock) := fun s w2 w3 v3 q1 q2 q3 q4 k2 k3 x3 b3 => by
    refine ⟨k2.trans k3 (fun _ _ e => e), v3, _, x3, ?_, ?_, b3⟩
    · rw [← q2]; exact (last_perm q1).trans q3
    · rw [List.length_take, q1, Nat.min_eq_left (by omega)]
      exact q4.take
  by_cases hin : i = n
  · subst hin
    have h3 := mPopW (.pointer (some ⟨h, 0, none⟩)) w
    have HE4 : Hid (Calls _ _ _ w _) := wpop_ok x i hn (by omega)
    clear x hl hn hi hp h2 HE2
    go_enter Try.func43, Try.ntmps43
    go_wp2_with fail
    refine HE1.out.mono ?_
    rintro r w0 ⟨rfl, hw0⟩
    obtain rfl := hw0
    clear h1 HE1
    go_wp2_with fail
    refine HE4.out.mono ?_
    rintro r w3 ⟨rfl, k3, v3, x3, b3⟩
    have HF : Hid (_ ∧ _) := HFIN.out l w0 w3 v3 HN.out.1 rfl (List.Perm.refl _) (fun k hk hkn => HN.out.2.2.1 k hk (by rw [HN.out.1]; omega)) (Kp.refl _ _) k3 x3 b3
    clear HE4 k3 x3 h3
    go_wp2
    go_ret
    exact ⟨⟨_, rfl⟩, HF.out⟩
  · have hin2 : ¬ ((n : Int) = (i : Int)) := by omega
    have hin3 : decide ((n : Int) = (i : Int)) = false := decide_eq_false hin2
    have HI : Hid (i < n) := by show i < n; omega
    clear x hl hn hi hp hin
    go_enter Try.func43, Try.ntmps43
    go_wp2_with fail
    refine HE1.out.mono ?_
    rintro r w0 ⟨rfl, hw0⟩
    obtain rfl := hw0
    clear h1 HE1
    go_wp2_with fail
    refine HE2.out.mono ?_
    rintro r w1 ⟨rfl, k1, x1⟩
    have HL1 : Hid ((swW l i n).length = n + 1) := by show (swW l i n).length = n + 1; rw [swW_len, HN.out.1]
    have HK1 : Hid (Kp (Hs h m v) w0 w1) := k1
    have hii := HI.out
    have hnn := HN.out
    have HE3 : Hid (Calls _ _ _ w1 _) := wdown x1 i n (by omega) (by rw [HL1.out]; omega) (by rw [HL1.out]; omega)
    have hch : ∀ k, 0 < k → k < n → (k - 1) / 2 = i → 0 < i → tm (swW l i n) ((i - 1) / 2) ≤ tm (swW l i n) k := fun k hk hkn hpk hi0 => by
      rw [tm_sw l i n k (by omega) (by omega), tm_sw l i n _ (by omega) (by omega), if_neg (by omega), if_neg (by omega), if_neg (by omega), if_neg (by omega)]
      have q1 := hnn.2.2.1 i hi0 (by omega)
      have q2 := hnn.2.2.1 k hk (by omega)
      rw [hpk] at q2
      omega
    have hh := downW_heap (swW l i n).length (swW l i n) i n (by rw [HL1.out]; omega) hii (by rw [HL1.out]; omega) (fun k hk hkn hpk hk0 => by
        rw [tm_sw l i n k (by omega) (by omega), tm_sw l i n _ (by omega) (by omega), if_neg (by omega), if_neg (by omega), if_neg (by omega), if_neg (by omega)]
        exact hnn.2.2.1 k hk (by omega)) hch
    have hsn1 : (swW l i n).getD n wt0 = l.getD i wt0 := by rw [swW_getD l i n n (by omega) (by omega), if_pos rfl]
    have HH : Hid ((i < (downW (swW l i n).length (swW l i n) i n).2 → Hpd (downW (swW l i n).length (swW l i n) i n).1 n) ∧ (¬ i < (downW (swW l i n).length (swW l i n) i n).2 → (downW (swW l i n).length (swW l i n) i n).1 = swW l i n ∧ Hpd (upW (i + 1) (swW l i n) i) n)) := by
      refine ⟨hh.2.1, fun e => ⟨(hh.2.2 e).1, ?_⟩⟩
      exact upW_heap (i + 1) _ i n (by omega) hii (by rw [HL1.out]; omega) (hh.2.2 e).2 hch
    have HSN : Hid ((swW l i n).getD n wt0 = l.getD i wt0 ∧ (swW l i n).Perm l) := ⟨hsn1, swW_perm l i n (by omega) (by omega)⟩
    clear h2 HE2 k1 x1 hii hnn hch hh hsn1
    by_cases hmv : i < (downW (swW l i n).length (swW l i n) i n).2
    · have HMV : Hid (i < (downW (swW l i n).length (swW l i n) i n).2) := hmv
      have hdt : decide (i < (downW (swW l i n).length (swW l i n) i n).2) = true := decide_eq_true hmv
      rw [hdt] at HE3
      clear hmv hdt
      go_wp2_with fail
      refine HE3.out.mono ?_
      rintro r w2 ⟨rfl, k2, x2⟩
      have HK2 : Hid (Kp (Hs h m v) w0 w2) := HK1.out.trans k2 (fun _ _ e => e)
      have hsl : (downW (swW l i n).length (swW l i n) i n).1.length = n + 1 := by rw [downW_len, HL1.out]
      have h3 := mPopW (.pointer (some ⟨h, 0, none⟩)) w2
      have HE4 : Hid (Calls _ _ _ w2 _) := wpop_ok x2 n hsl (by have := HN.out; omega)
      have HSL : Hid ((downW (swW l i n).length (swW l i n) i n).1.length = n + 1) := hsl
      clear HE3 k2 x2 hsl
      go_wp2_with fail
      refine HE4.out.mono ?_
      rintro r w3 ⟨rfl, k3, v3, x3, b3⟩
      have HF : Hid (_ ∧ _) := HFIN.out _ w2 w3 v3 HSL.out (by rw [downW_keep _ _ _ n n HI.out (by rw [HL1.out]; omega) (Nat.le_refl _)]; exact HSN.out.1) ((downW_perm _ _ _ _ HI.out (by rw [HL1.out]; omega)).trans HSN.out.2) (HH.out.1 HMV.out) HK2.out k3 x3 b3
      clear HE4 k3 x3 h3
      go_wp2
      go_ret
      exact ⟨⟨_, rfl⟩, HF.out⟩
    · have hdt : decide (i < (downW (swW l i n).length (swW l i n) i n).2) = false := decide_eq_false hmv
      have HMV := HH.out.2 hmv
      rw [hdt, HMV.1] at HE3
      have HMV : Hid (Hpd (upW (i + 1) (swW l i n) i) n) := HMV.2
      clear hmv hdt
      go_wp2_with fail
      refine HE3.out.mono ?_
      rintro r w2 ⟨rfl, k2, x2⟩
      have HK2 : Hid (Kp (Hs h m v) w0 w2) := HK1.out.trans k2 (fun _ _ e => e)
      have HU : Hid (Calls _ _ _ w2 _) := wup x2 i (by rw [HL1.out]; have := HI.out; omega) (by rw [HL1.out]; have := HN.out; omega)
      clear HE3 k2 x2
      go_wp2_with fail
      refine HU.out.mono ?_
      rintro r w4 ⟨rfl, k4, x4⟩
      have HK4 : Hid (Kp (Hs h m v) w0 w4) := HK2.out.trans k4 (fun _ _ e => e)
      have hsl : (upW (i + 1) (swW l i n) i).length = n + 1 := by rw [upW_len, HL1.out]
      have h3 := mPopW (.pointer (some ⟨h, 0, none⟩)) w4
      have HE4 : Hid (Calls _ _ _ w4 _) := wpop_ok x4 n hsl (by have := HN.out; omega)
      have HSL : Hid ((upW (i + 1) (swW l i n) i).length = n + 1) := hsl
      clear HU k4 x4 hsl
      go_wp2_with fail
      refine HE4.out.mono ?_
      rintro r w3 ⟨rfl, k3, v3, x3, b3⟩
      have HF : Hid (_ ∧ _) := HFIN.out _ w4 w3 v3 HSL.out (by rw [upW_keep _ _ _ n (by rw [HL1.out]; have := HI.out; omega) HI.out]; exact HSN.out.1) ((upW_perm _ _ _ (by rw [HL1.out]; have := HI.out; omega)).trans HSN.out.2) HMV.out HK4.out k3 x3 b3
      clear HE4 k3 x3 h3
      go_wp2
      go_ret
      exact ⟨⟨_, rfl⟩, HF.out⟩
end Go.Proofs.Ytnpaoppfhffoiaa
