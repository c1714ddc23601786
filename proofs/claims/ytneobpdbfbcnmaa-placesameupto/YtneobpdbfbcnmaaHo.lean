/- Spare; Contains; awake. -/
import Derived.Test.YtneobpdbfbcnmaaHn
namespace Go.Proofs.Ytneobpdbfbcnmaa
set_option linter.unusedVariables false
open Go.RowKit Go.Deep

theorem wrapV' (k n : Nat) (hk : k ≤ n) (h : n * 8 ≤ 140737488355328) : wrap64 ((k : Int) + 1) = ((k + 1 : Nat) : Int) := by unfold wrap64; omega

set_option maxRecDepth 100000 in
set_option maxHeartbeats 800000 in
theorem eq_ints (Z1 Z2 : Nat → Prop) (p1 p2 : Option Addr) (c1 c2 : Nat) (xs ys : List Int) (w : World) (h1 : Fl w Z1 p1 (xs.map encI)) (h2 : Fl w Z2 p2 (ys.map encI)) (hl : Hid (xs.length * 8 ≤ 140737488355328)) :
    Calls Try.prog 12 #[.slice p1 xs.length c1, .slice p2 ys.length c2] w fun e w' => e = .returned (.bool (decide (xs = ys))) ∧ Kp (fun _ => False) w w' := by
  obtain ⟨L, hL⟩ : ∃ L, L = xs.length := ⟨_, rfl⟩
  obtain ⟨M, hM⟩ : ∃ M, M = ys.length := ⟨_, rfl⟩
  have HL : Hid (L = xs.length ∧ M = ys.length) := ⟨hL, hM⟩
  have HK : Hid (L * 8 ≤ 140737488355328) := by rw [hL]; exact hl
  rw [← hL, ← hM]
  have H1 : Hid (Fl w Z1 p1 (xs.map encI)) := h1
  have H2 : Hid (Fl w Z2 p2 (ys.map encI)) := h2
  by_cases hlm : (L : Int) = (M : Int)
  · obtain rfl : L = M := by omega
    obtain ⟨d, hd⟩ : ∃ d, d = decide (xs = ys) := ⟨_, rfl⟩
    have HD : Hid (d = decide (xs = ys)) := hd
    rw [← hd]
    clear h1 h2 hL hl hM hlm hd
    go_enter Try.func12, Try.ntmps12
    go_wp2
    go_loopg [13] L (fun gk i wr => ∃ k : Nat, k ≤ L ∧ gk = L - k ∧ i = .int .i64 k ∧ Kp (fun _ => False) w wr ∧ xs.take k = ys.take k)
    case atStart => exact ⟨0, Nat.zero_le _, rfl, rfl, Kp.refl _ _, rfl⟩
    case round =>
      obtain ⟨k, hk, rfl, rfl, hK, htk⟩ := hrel
      have HTk : Hid (xs.take k = ys.take k) := htk
      clear htk
      by_cases hlt : (k : Int) < (L : Int)
      · have hkl : k < xs.length := by have := HL.out; omega
        have hkm : k < ys.length := by have := HL.out; omega
        have hg : (xs.map encI)[k]? = some (encI xs[k]) := by rw [List.getElem?_map, List.getElem?_eq_getElem hkl]; rfl
        have hg2 : (ys.map encI)[k]? = some (encI ys[k]) := by rw [List.getElem?_map, List.getElem?_eq_getElem hkm]; rfl
        obtain ⟨b1, o1, rfl, _, e1⟩ := (H1.out.keep hK (fun _ _ => id)) k _ hg
        obtain ⟨b2, o2, rfl, _, e2⟩ := (H2.out.keep hK (fun _ _ => id)) k _ hg2
        have HK1 : Hid (wrap64 ((k : Int) + 1) = ((k + 1 : Nat) : Int)) := wrapV' k L hk HK.out
        obtain ⟨z, hz⟩ : ∃ z, z = xs[k] := ⟨_, rfl⟩
        obtain ⟨y, hy⟩ : ∃ y, y = ys[k] := ⟨_, rfl⟩
        rw [← hz] at e1
        rw [← hy] at e2
        have HT : Hid (xs.take (k + 1) = xs.take k ++ [z] ∧ ys.take (k + 1) = ys.take k ++ [y]) := ⟨by rw [hz, List.take_succ_eq_append_getElem hkl], by rw [hy, List.take_succ_eq_append_getElem hkm]⟩
        clear hg hg2 hz hy
        by_cases hzy : z = y
        · subst hzy
          go_wp2
          go_region
          go_wp2
          go_roundg (L - (k + 1))
          case rel => exact ⟨k + 1, by omega, rfl, by rw [HK1.out], hK.drew, by rw [HT.out.1, HT.out.2, HTk.out]⟩
          case measure => omega
        · have HDf : Hid (d = false) := by
            show d = false
            rw [HD.out, decide_eq_false_iff_not]
            intro e
            have := HT.out
            rw [e, this.2] at this
            have h3 := List.append_cancel_left this.1
            exact hzy (by injection h3 with h3 _; exact h3.symm)
          go_wp2
          go_region
          go_wp2
          go_ret
          exact ⟨by rw [HDf.out]; rfl, hK.drew⟩
      · have HDt : Hid (d = true) := by
          show d = true
          have h3 := HTk.out
          have h4 := HL.out
          rw [List.take_of_length_le (by omega), List.take_of_length_le (by omega)] at h3
          rw [HD.out, decide_eq_true_iff]
          exact h3
        go_wp2
        go_ret
        exact ⟨by rw [HDt.out]; rfl, hK⟩
  · have HDf : Hid (decide (xs = ys) = false) := by
      show _ = false
      rw [decide_eq_false_iff_not]
      intro e
      rw [e] at hL
      omega
    clear h1 h2 hL hM hl
    go_enter Try.func12, Try.ntmps12
    go_wp2
    go_ret
    exact ⟨by rw [HDf.out]; rfl, Kp.refl _ _⟩

set_option maxRecDepth 100000 in
set_option maxHeartbeats 1600000 in
theorem index_ok (Z : Nat → Prop) (p : Option Addr) (c : Nat) (z : Int) (xs : List Int) (w : World) (h : Fl w Z p (xs.map encI)) (hl : Hid (xs.length * 8 ≤ 140737488355328)) :
    Calls Try.prog 21 #[.slice p xs.length c, .int .i64 z] w fun e w' => ∃ r : Int, e = .returned (.int .i64 r) ∧ decide (0 ≤ r) = decide (z ∈ xs) ∧ w' = w := by
  obtain ⟨L, hL⟩ : ∃ L, L = xs.length := ⟨_, rfl⟩
  have HL : Hid (L = xs.length) := hL
  rw [← hL]
  have HF : Hid (Fl w Z p (xs.map encI)) := h
  have HK : Hid (L * 8 ≤ 140737488355328) := by rw [hL]; exact hl
  clear h hL hl
  go_enter Try.func21, Try.ntmps21
  go_wp2
  go_loopg [8] L (fun gk i wr => ∃ k : Nat, k ≤ L ∧ gk = L - k ∧ i = .int .i64 k ∧ wr = w ∧ Hid (z ∉ xs.take k))
  case atStart => exact ⟨0, Nat.zero_le _, rfl, rfl, rfl, by simp [Hid]⟩
  case round =>
    obtain ⟨k, hk, rfl, rfl, hwr, HT⟩ := hrel
    subst hwr
    by_cases hlt : (k : Int) < (L : Int)
    · have hkl : k < xs.length := by have := HL.out; omega
      have hg : (xs.map encI)[k]? = some (encI xs[k]) := by rw [List.getElem?_map, List.getElem?_eq_getElem hkl]; rfl
      obtain ⟨b1, o1, rfl, _, e1⟩ := HF.out k _ hg
      obtain ⟨y, hy⟩ : ∃ y, y = xs[k] := ⟨_, rfl⟩
      rw [← hy] at e1
      have HTk : Hid (xs.take (k + 1) = xs.take k ++ [y] ∧ y ∈ xs) := ⟨by rw [hy, List.take_succ_eq_append_getElem hkl], by rw [hy]; exact List.getElem_mem hkl⟩
      have HW : Hid (wrap64 ((k : Int) + 1) = ((k + 1 : Nat) : Int)) := wrapV' k L hk HK.out
      clear hg hy hkl
      by_cases hzy : z = y
      · subst hzy
        go_wp2
        go_ret
        exact ⟨_, rfl, by rw [decide_eq_true HTk.out.2, decide_eq_true (by omega)], rfl⟩
      · go_wp2
        go_roundg (L - (k + 1))
        case rel => exact ⟨k + 1, by omega, rfl, by rw [HW.out], rfl, by show _ ∉ _; rw [HTk.out.1]; simp only [List.mem_append, List.mem_singleton]; exact fun e => e.elim HT.out hzy⟩
        case measure => omega
    · have HA : Hid (z ∉ xs) := by
        have := HT.out
        rw [List.take_of_length_le (by have := HL.out; omega)] at this
        exact this
      go_wp2
      go_ret
      exact ⟨_, rfl, by first | exact ⟨fun h => absurd h (by omega), fun h => absurd h HA.out⟩ | (rw [decide_eq_false HA.out]; rfl), rfl⟩

set_option maxRecDepth 100000 in
set_option maxHeartbeats 800000 in
theorem contains_ok (Z : Nat → Prop) (p : Option Addr) (c : Nat) (z : Int) (xs : List Int) (w : World) (h : Fl w Z p (xs.map encI)) (hl : Hid (xs.length * 8 ≤ 140737488355328)) :
    Calls Try.prog 14 #[.slice p xs.length c, .int .i64 z] w fun e w' => e = .returned (.bool (decide (z ∈ xs))) ∧ w' = w := by
  have H : Hid (Calls _ _ _ w _) := index_ok Z p c z xs w h hl
  obtain ⟨L, hL⟩ : ∃ L, L = xs.length := ⟨_, rfl⟩
  obtain ⟨an, han⟩ : ∃ an, an = decide (z ∈ xs) := ⟨_, rfl⟩
  rw [← hL, ← han] at H
  rw [← hL, ← han]
  clear h hl hL han
  go_enter Try.func14, Try.ntmps14
  go_wp2_with (go_at_call 21; refine H.out.mono ?_; rintro e u4 ⟨r, rfl, hr, hw⟩; obtain rfl := hw; subst hr)
  go_ret
  exact ⟨rfl, rfl⟩

set_option maxRecDepth 100000 in
set_option maxHeartbeats 800000 in
theorem awake_ok (w : World) : Calls Try.prog 13 #[] w fun e w' => e = .returned (.bool true) ∧ Kp (fun _ => False) w w' := by
  have k0 : Kp (fun _ => False) w (w.alloc (.cells #[.int .i64 0, .int .i64 2, .int .i64 5] 3)) := (Kp.refl _ _).alloc _
  have hlv := Lv.new w #[.int .i64 0, .int .i64 2, .int .i64 5] 3
  have hf : Fl (w.alloc (.cells #[.int .i64 0, .int .i64 2, .int .i64 5] 3)) (fun _ => True) (some ⟨w.heap.size, 0, none⟩) ([0, 2, 5].map encI) := fun j u hu => ⟨w.heap.size, 0, rfl, trivial, by rw [Nat.zero_add]; exact hlv.cell hu⟩
  have ht : (trn [0, 2, 5] 4).take 2 = [2, 5] := by decide
  have HE : Hid (Calls _ _ _ (w.alloc (.cells #[.int .i64 0, .int .i64 2, .int .i64 5] 3)) _) := choose_ok _ (some ⟨w.heap.size, 0, none⟩) 3 [0, 2, 5] 4 2 (by omega) (by decide) _ hf (by show _ ≤ _; decide)
  rw [ht] at HE
  clear hlv hf ht
  go_enter Try.func13, Try.ntmps13
  go_wp2_with fail
  refine HE.out.mono ?_
  rintro e w1 ⟨g, rfl, k1, hg, hl1⟩
  have kn : Kp (fun _ => False) w1 (w1.alloc (.cells #[.int .i64 2, .int .i64 5] 3)) := (Kp.refl _ _).alloc _
  have hl2 := Lv.new w1 #[.int .i64 2, .int .i64 5] 3
  have hl1' := hl1.keep kn id
  have HQ : Hid (Calls _ _ _ (w1.alloc (.cells #[.int .i64 2, .int .i64 5] 3)) _) := eq_ints (fun _ => True) (fun _ => True) (some ⟨g, 0, none⟩) (some ⟨w1.heap.size, 0, none⟩) 2 2 [2, 5] [2, 5] _ (fun j u hu => ⟨g, 0, rfl, trivial, by rw [Nat.zero_add]; exact hl1'.cell hu⟩) (fun j u hu => ⟨w1.heap.size, 0, rfl, trivial, by rw [Nat.zero_add]; exact hl2.cell hu⟩) (by show _ ≤ _; decide)
  have KW : Hid (Kp (fun _ => False) w (w1.alloc (.cells #[.int .i64 2, .int .i64 5] 3))) := (k0.trans k1 (fun _ _ e => e)).trans kn (fun _ _ e => e)
  clear hl1 hl1' hl2 kn k1 hg HE
  go_wp2_with fail
  refine HQ.out.mono ?_
  rintro e w2 ⟨rfl, k2⟩
  go_wp2
  go_ret
  exact ⟨by simp, KW.out.trans k2 (fun _ _ e => e)⟩

set_option maxRecDepth 100000 in
set_option maxHeartbeats 3200000 in
theorem spare_ok (Z1 Z2 : Nat → Prop) (p1 p2 : Option Addr) (c1 c2 : Nat) (zs us : List Int) (seed : Int) (w : World) (h1 : Fl w Z1 p1 (zs.map encI)) (h2 : Fl w Z2 p2 (us.map encI)) (hl1 : Hid (zs.length * 8 ≤ 140737488355328)) (hl2 : Hid (us.length * 8 ≤ 140737488355328)) :
    Calls Try.prog 10 #[.slice p1 zs.length c1, .slice p2 us.length c2, .int .i64 seed] w fun e w' => e = .returned (.tuple #[.int .i64 ((fstS zs seed (setOf us)).getD 0), .int .i64 (if (fstS zs seed (setOf us)).isSome then 0 else 140)]) ∧ Kp (fun _ => False) w w' := by
  have HN : Hid (Calls _ _ _ w _) := nodesOf_ok Z2 p2 c2 us w h2 hl2
  have HTu : Hid (∀ u, Kp (fun _ => False) w u → Calls _ _ _ u _) := fun u ku => turned_ok Z1 p1 c1 zs seed u (h1.keep ku (fun _ _ => id)) hl1
  obtain ⟨bs, hbs⟩ : ∃ bs, bs = setOf us := ⟨_, rfl⟩
  have HBs : Hid (bs.length = 16) := by show _ = _; rw [hbs]; exact setOf_len us
  rw [← hbs] at HN ⊢
  have HFi : Hid (∀ (u : World) (base h g cap : Nat), Hp u base h g cap (ndz zs) (ldz zs seed) (lft zs seed 0) → Calls _ _ _ u _) := fun u base h g cap hp => first_ok zs seed bs HBs.out hp
  obtain ⟨ba, hba⟩ : ∃ ba, ba = (boolsV bs).toArray := ⟨_, rfl⟩
  have HBa : Hid (ba.toList.length = 16 ∧ ba.all (·.oneCell') = true) := ⟨by rw [hba, List.toList_toArray, List.length_map, HBs.out], by rw [hba]; exact boolsV_one bs⟩
  rw [← hba] at HN HFi
  obtain ⟨f, hf⟩ : ∃ f, f = fstS zs seed bs := ⟨_, rfl⟩
  rw [← hf] at HFi ⊢
  obtain ⟨n1, hn1⟩ : ∃ n, n = zs.length := ⟨_, rfl⟩
  obtain ⟨n2, hn2⟩ : ∃ n, n = us.length := ⟨_, rfl⟩
  rw [← hn1] at HTu ⊢
  rw [← hn2] at HN ⊢
  clear h1 h2 hl1 hl2 hbs hba hf hn1 hn2
  go_enter Try.func10, Try.ntmps10
  go_wp2_with fail
  refine HN.out.mono ?_
  rintro e w1 ⟨rfl, k1⟩
  clear HN
  go_wp2_with (refine wpList_store_all rfl 44 _ _ rfl 16 w1.heap.size (boolsV (List.replicate 16 false)) ba.toList rfl (by rw [Array.toArray_toList]; rfl) (by exact Lv.new w1 _ _) szN rfl HBa.out.1 (by rw [Array.toArray_toList]; exact HBa.out.2) ?_; intro w2 hl2 k2; have kn2 : Kp (fun _ => False) w1 w2 := ((Kp.refl (fun _ => False) w1).alloc _).trans k2 (fun b hb e => by omega); have HL2 : Hid (Lv w2 w1.heap.size ba.toList) := hl2; have HK2 : Hid (Kp (fun _ => False) w w2) := k1.trans kn2 (fun _ _ e => e); clear hl2 k2 kn2)
  obtain ⟨g8, hg8⟩ : ∃ g, g = w1.heap.size := ⟨_, rfl⟩
  rw [← hg8] at HL2 ⊢
  have HG8 : Hid (g8 < w2.heap.size) := HL2.out.lt (by rw [HBa.out.1]; omega)
  obtain ⟨dN, hdN1, hdN2⟩ := dsN
  have kd0 : Kp (fun _ => False) w2 w2.drew := (Kp.refl _ _).drew
  have hS0 : w2.drew.rangeAt g8 0 ba.toList := (HL2.out.keep kd0 id).r
  have HLd : Hid (Lv w2.drew g8 ba.toList) := HL2.out.keep kd0 id
  have HKd : Hid (Kp (fun _ => False) w w2.drew) := HK2.out.trans kd0 (fun _ _ e => e)
  obtain ⟨wd, hwd⟩ : ∃ x, x = w2.drew := ⟨_, rfl⟩
  have HGd : Hid (g8 < wd.heap.size) := by rw [hwd]; exact Nat.lt_of_lt_of_le HG8.out kd0.size
  refine wp_region_held_drew (S := (fun x : World => x.rangeAt g8 0 ba.toList)) (by kernel_rfl) hS0 (fun hHeld => ?_)
  rw [← hwd] at hHeld HLd HKd ⊢
  clear hwd hg8 hS0 kd0 HL2 HK2
  simp only [List.size_toArray, List.length_cons, List.length_nil, Nat.zero_add, Nat.reduceAdd]
  refine wpAnyH_take (i := 0) (v := ?zv0) (List.getElem?_toArray.trans rfl) (by kernel_rfl) (by kernel_rfl) (by kernel_rfl) (fun _ _ _ h => h) (Or.inl ⟨by rfl, ?zy0⟩) (by assumption) ?zr0
  case zy0 => (intro w hSw; go_simp; try with_reducible rfl)
  simp only [Act.put, List.setIfInBounds_toArray, List.set_cons_zero, List.set_cons_succ]
  refine wpAnyH_take (i := 1) (v := ?zv1) (List.getElem?_toArray.trans rfl) (by kernel_rfl) (by kernel_rfl) (by kernel_rfl) (fun _ _ _ h => h) (Or.inl ⟨by rfl, ?zy1⟩) (by assumption) ?zr1
  case zy1 => (intro w hSw; go_simp; try with_reducible rfl)
  simp only [Act.put, List.setIfInBounds_toArray, List.set_cons_zero, List.set_cons_succ]
  refine wpAnyH_take (i := 3) (v := .agg ba.toList.toArray) (List.getElem?_toArray.trans rfl) (by kernel_rfl) (by kernel_rfl) (by kernel_rfl) (fun _ _ _ h => h) (yieldsIf_load_mid (by rfl) 44 _ rfl g8 0 rfl ba.toList dN (fun x hx => hx) hdN1 hdN2 (by rw [szN, HBa.out.1])) (by assumption) ?_
  rw [Array.toArray_toList]
  simp only [Act.put, List.setIfInBounds_toArray, List.set_cons_zero, List.set_cons_succ]
  refine wpAnyH_take (i := 4) (v := ?zv4) (List.getElem?_toArray.trans rfl) (by kernel_rfl) (by kernel_rfl) (by kernel_rfl) (fun _ _ _ h => h) (Or.inl ⟨by rfl, ?zy4⟩) (by assumption) ?zr4
  case zy4 => (intro w hSw; go_simp; try with_reducible rfl)
  simp only [Act.put, List.setIfInBounds_toArray, List.set_cons_zero, List.set_cons_succ]
  refine wpAnyH_ready (rs := [2]) (by kernel_rfl) (by simp) ?_
  refine AllReadyH.cons rfl (fun Ka hKa => ?_) AllReadyH.nil
  rw [if_pos (by rfl)]
  go_simp
  refine (HTu.out wd HKd.out).mono ?_
  rintro e w3 ⟨hb, rfl, k3, hhb, g, cap, hg, base, hp⟩
  have HP3 : Hid (Hp w3 base hb g cap (ndz zs) (ldz zs seed) (lft zs seed 0)) := hp
  have HL3 : Hid (Lv w3 g8 ba.toList) := HLd.out.keep k3 id
  have HK3 : Hid (Kp (fun _ => False) w w3) := HKd.out.trans k3 (fun _ _ e => e)
  have HB3 : Hid (w.heap.size ≤ hb ∧ w.heap.size ≤ g ∧ g8 ≠ hb ∧ g8 ≠ g) := by show _ ∧ _; have := HKd.out.size; have := HGd.out; omega
  clear hHeld hp k3 hhb hg
  try dsimp only
  refine hKa.out _ _ HL3.out.r (fun hHeld => ?_)
  clear hKa Ka
  refine wpAnyH_ready (rs := [5]) (by kernel_rfl) (by simp) ?_
  refine AllReadyH.cons rfl (fun Ka hKa => ?_) AllReadyH.nil
  rw [if_pos (by rfl)]
  go_simp
  refine (HFi.out w3 base hb g cap HP3.out).mono ?_
  rintro e w4 ⟨rfl, k4⟩
  have HL4 : Hid (Lv w4 g8 ba.toList) := HL3.out.keep k4 (by have := HB3.out; omega)
  have HK4 : Hid (Kp (fun _ => False) w w4) := HK3.out.trans k4 (fun b hb e => by have := HB3.out; omega)
  clear hHeld k4
  try dsimp only
  refine hKa.out _ _ HL4.out.r (fun hHeld => ?_)
  clear hKa Ka
  refine wpAnyH_take (i := 6) (v := ?zv6) (List.getElem?_toArray.trans rfl) (by kernel_rfl) (by kernel_rfl) (by kernel_rfl) (fun _ _ _ h => h) (Or.inl ⟨by rfl, ?zy6⟩) (by assumption) ?zr6
  case zy6 => (intro w hSw; go_simp; try with_reducible rfl)
  simp only [Act.put, List.setIfInBounds_toArray, List.set_cons_zero, List.set_cons_succ]
  refine wpAnyH_take (i := 7) (v := ?zv7) (List.getElem?_toArray.trans rfl) (by kernel_rfl) (by kernel_rfl) (by kernel_rfl) (fun _ _ _ h => h) (Or.inl ⟨by rfl, ?zy7⟩) (by assumption) ?zr7
  case zy7 => (intro w hSw; go_simp; try with_reducible rfl)
  simp only [Act.put, List.setIfInBounds_toArray, List.set_cons_zero, List.set_cons_succ]
  refine wpAnyH_take (i := 8) (v := ?zv8) (List.getElem?_toArray.trans rfl) (by kernel_rfl) (by kernel_rfl) (by kernel_rfl) (fun _ _ _ h => h) (Or.inl ⟨by rfl, ?zy8⟩) (by assumption) ?zr8
  case zy8 => (intro w hSw; go_simp; try with_reducible rfl)
  simp only [Act.put, List.setIfInBounds_toArray, List.set_cons_zero, List.set_cons_succ]
  refine wpAnyH_take (i := 9) (v := ?zv9) (List.getElem?_toArray.trans rfl) (by kernel_rfl) (by kernel_rfl) (by kernel_rfl) (fun _ _ _ h => h) (Or.inl ⟨by rfl, ?zy9⟩) (by assumption) ?zr9
  case zy9 => (intro w hSw; go_simp; try with_reducible rfl)
  simp only [Act.put, List.setIfInBounds_toArray, List.set_cons_zero, List.set_cons_succ]
  refine wpAnyH_take (i := 10) (v := ?zv10) (List.getElem?_toArray.trans rfl) (by kernel_rfl) (by kernel_rfl) (by kernel_rfl) (fun _ _ _ h => h) (Or.inl ⟨by rfl, ?zy10⟩) (by assumption) ?zr10
  case zy10 => (intro w hSw; go_simp; try with_reducible rfl)
  simp only [Act.put, List.setIfInBounds_toArray, List.set_cons_zero, List.set_cons_succ]
  refine wpAnyH_done (by kernel_rfl) ?_ _
  clear hHeld HFi HTu HLd HL3 HL4
  cases f with
  | none =>
    go_wp2
    go_ret2
    exact ⟨rfl, HK4.out⟩
  | some z =>
    go_wp2
    go_ret2
    exact ⟨rfl, HK4.out⟩
end Go.Proofs.Ytneobpdbfbcnmaa
