/- The walk of the law LeadMeets. -/
import Derived.Test.YtjpdbhkggcojaaaEf
namespace Go.Proofs.Ytjpdbhkggcojaaa
set_option linter.unusedVariables false
open Go.RowKit Go.Deep Go.Maps

theorem slice_hi (p : Option Addr) (n c r : Nat) (hr : r ≤ c) (w : World) :
    (Instr.slice 23 (.slice p n c) none (some (.int .i64 (r : Int))) none).run Try.prog w = .ok (.slice p r c) w := by
  obtain ⟨i, hi, hz⟩ := Option.map_eq_some_iff.1 infoInt
  simp only [Prod.mk.injEq] at hz
  obtain ⟨hz, hs, hb⟩ := hz
  have h2 : (0 : Int) ≤ r ∧ (r : Int) ≤ (c : Int) := by omega
  simp [Instr.slice, Instr.sliceBounds, Instr.sliceBound, asIntOf, run_underlying Try.underlying23, sizeOf, typeInfo, hi, hr]
  cases p <;> simp [Addr.add]
theorem iz_fl {w : World} {p : Option Addr} {zs : List Int} (h : Iz w p zs) : Fl w (· < w.heap.size) p (zs.map encI) := fun j u hu => by
  have hj : j < zs.length := by have := (List.getElem?_eq_some_iff.1 hu).1; simpa using this
  obtain ⟨b, o, e, hc⟩ := h j hj
  rw [List.getElem?_map, List.getElem?_eq_getElem hj] at hu
  injection hu with hu
  rw [List.getD_eq_getElem?_getD, List.getElem?_eq_getElem hj] at hc
  subst hu
  exact ⟨b, o, e, World.block_lt_of_cell? _ _ hc, hc⟩
theorem Fl.take {Z : Nat → Prop} {w : World} {p : Option Addr} {cells : List Value} (h : Fl w Z p cells) (n : Nat) : Fl w Z p (cells.take n) := fun j u hu => by
  have hj : j < n := by have := (List.getElem?_eq_some_iff.1 hu).1; rw [List.length_take] at this; omega
  rw [List.getElem?_take_of_lt hj] at hu
  exact h j u hu
theorem maj_one : maj ((List.replicate 16 false).set 0 true) [0] = true := by rw [maj_of (ds := [0]) _ (by simp) (fun x => Iff.rfl)]; decide
theorem maj_two : maj ((List.replicate 16 false).set 0 true) [0, 1] = false := by rw [maj_of (ds := [0, 1]) _ (by simp) (fun x => Iff.rfl)]; decide
theorem maj_none (pr : List Bool) : maj pr [] = false := by rw [maj_of (ds := []) _ (by simp) (fun x => Iff.rfl)]; rfl
theorem has_rep (n : Nat) : hasN (List.replicate 16 false) n = false := by
  unfold hasN
  rw [List.getD_eq_getElem?_getD, List.getElem?_replicate]
  split <;> simp

theorem te_leadsN {w : World} {lo hi t : Nat} {pr : List Bool} (h : Te w lo hi t pr) (p : Option Addr) (cap n : Nat) (zs : List Int) (hn : zs.length = n) (hI : Fl w (· < w.heap.size) p (zs.map encI)) (hreach : n ≤ 100) (m : Bool) (hm : maj pr zs = m) :
    Calls Try.prog 22 #[.pointer (some ⟨t, 0, none⟩), .slice p n cap] w fun e w' => e = .returned (.bool m) ∧ Kp (fun _ => False) w w' := by
  subst hn hm
  exact te_leads h p cap zs hI (by omega)

set_option maxRecDepth 100000 in
set_option maxHeartbeats 8000000 in
theorem leadMeets_walk (v : Value) (L : Nat) (a b : Int) (w : World) (hv : Ints w v L) :
    Calls Try.prog 4 #[v, .int .u64 a, .int .u64 b] w fun e w' => e = .returned (.bool true) ∧ Kp (fun _ => False) w w' := by
  obtain ⟨p, c, zs0, rfl, hzl, hc, hz, hL⟩ := hv
  obtain ⟨K, hK⟩ : ∃ K, K = min L 20 := ⟨_, rfl⟩
  have hmin : min (L : Int) 20 = (K : Int) := by omega
  have hK20 : (K : Int) ≤ 20 := by omega
  have hsl := slice_hi p L c K (by omega)
  obtain ⟨zs, hzs⟩ : ∃ zs, zs = zs0.take K := ⟨_, rfl⟩
  have hzl2 : zs.length = K := by rw [hzs, List.length_take]; omega
  have HF : Hid (Fl w (· < w.heap.size) p (zs.map encI)) := by rw [hzs, List.map_take]; exact (iz_fl hz).take K
  have HKz : Hid (zs.length = K) := hzl2
  have HLL : Hid (L * 8 ≤ 140737488355328) := hL
  have HN : Hid (∀ bal : Int, 1 ≤ bal ∧ bal ≤ 100 → ∀ u, Calls _ _ _ u _) := te_new
  clear hL hz hzl hc hK hzs hzl2
  go_enter Try.func4, Try.ntmps4
  go_wp2_with fail
  refine (HN.out 1 (by omega) w).mono ?_
  rintro e w1 ⟨t, rfl, k1, hT1⟩
  have HT1 : Hid (Te w1 w.heap.size w1.heap.size t (List.replicate 16 false)) := hT1
  clear hT1
  go_wp2_with fail
  refine (HN.out 2 (by omega) w1).mono ?_
  rintro e w2 ⟨s, rfl, k2, hT2⟩
  have HT2 : Hid (Te w2 w.heap.size w1.heap.size t (bset a 0)) := by rw [bset_zero]; exact HT1.out.keep k2 (fun _ _ _ => id)
  have HU2 : Hid (Te w2 w1.heap.size w2.heap.size s (bset b 0)) := by rw [bset_zero]; exact hT2
  have HK2 : Hid (Kp (fun _ => False) w w2 ∧ w.heap.size ≤ w1.heap.size ∧ w1.heap.size ≤ w2.heap.size) := ⟨k1.trans k2 (fun _ _ e => e), k1.size, k2.size⟩
  clear hT2 HT1 k1 k2
  obtain ⟨h1, hh1⟩ : ∃ x, x = w1.heap.size := ⟨_, rfl⟩
  obtain ⟨h2, hh2⟩ : ∃ x, x = w2.heap.size := ⟨_, rfl⟩
  rw [← hh1] at HT2
  rw [← hh1, ← hh2] at HU2 HK2
  clear hh1 hh2
  go_wp2
  go_loopg [35] 16 (fun gk iv wr => ∃ k : Nat, k ≤ 16 ∧ gk = 16 - k ∧ iv = .int .i64 k ∧ Hid (Kp (fun _ => False) w wr) ∧ Hid (Te wr w.heap.size h1 t (bset a k)) ∧ Hid (Te wr h1 h2 s (bset b k)))
  case atStart => exact ⟨0, by omega, rfl, rfl, HK2.out.1, HT2, HU2⟩
  case round =>
    obtain ⟨k, hk, rfl, rfl, HKr, HTr, HUr⟩ := hrel
    obtain ⟨wr0, rfl⟩ : ∃ x, x = wr := ⟨_, rfl⟩
    by_cases hlt : (k : Int) < 16
    · have HPt : Hid (bt a k = true → ∀ u, Te u w.heap.size h1 t (bset a k) → Calls Try.prog 11 #[.pointer (some ⟨t, 0, none⟩), .int .i64 (k : Int), .slice none 0 0] u fun e w' => e = .returned (.int .i64 0) ∧ Kp (fun b => w.heap.size ≤ b ∧ b < h1) u w' ∧ Te w' w.heap.size h1 t (bset a (k + 1))) := fun hb u hu => by
        have := te_promise hu k (by omega) (by rw [bset_has _ _ _ (by omega)]; simp)
        rwa [bset_set a k (by omega) hb] at this
      have HPu : Hid (bt b k = true → ∀ u, Te u h1 h2 s (bset b k) → Calls Try.prog 11 #[.pointer (some ⟨s, 0, none⟩), .int .i64 (k : Int), .slice none 0 0] u fun e w' => e = .returned (.int .i64 0) ∧ Kp (fun b => h1 ≤ b ∧ b < h2) u w' ∧ Te w' h1 h2 s (bset b (k + 1))) := fun hb u hu => by
        have := te_promise hu k (by omega) (by rw [bset_has _ _ _ (by omega)]; simp)
        rwa [bset_set b k (by omega) hb] at this
      have HKF : Hid (∀ u u' lo hi, w.heap.size ≤ lo → Kp (fun _ => False) w u → Kp (fun b => lo ≤ b ∧ b < hi) u u' → Kp (fun _ => False) w u') := fun u u' lo hi hlo k1 k2 => k1.trans k2 (fun b hb e => by omega)
      by_cases ha : bt a k = true
      · have ha1 : (bits .and .u64 (a / 2 ^ k) 1 == 1) = true := ha
        by_cases hb : bt b k = true
        · have hb1 : (bits .and .u64 (b / 2 ^ k) 1 == 1) = true := hb
          go_wp2_with fail
          refine (HPt.out ha _ HTr.out).mono ?_
          rintro e w3 ⟨rfl, k3, hT3⟩
          have HT3 : Hid (Te w3 w.heap.size h1 t (bset a (k + 1))) := hT3
          have HU3 : Hid (Te w3 h1 h2 s (bset b k)) := HUr.out.keep k3 (fun b h1 h2 e => by omega)
          have HK3 : Hid (Kp (fun _ => False) w w3) := HKF.out _ _ _ _ (Nat.le_refl _) HKr.out k3
          clear hT3 k3
          go_wp2_with (go_at_call 11; refine (HPu.out hb _ HU3.out).mono ?_; rintro e w4 ⟨rfl, k4, hU4⟩)
          go_roundg (16 - (k + 1))
          case rel => exact ⟨k + 1, by omega, rfl, by go_num, HKF.out _ _ _ _ HK2.out.2.1 HK3.out k4, HT3.out.keep k4 (fun b h1 h2 e => by omega), hU4⟩
          case measure => omega
        · have hb0 : bt b k = false := by simpa using hb
          have hb1 : (bits .and .u64 (b / 2 ^ k) 1 == 1) = false := hb0
          have hs1 := bset_skip b k hb0
          have HU1 : Hid (Te wr0 h1 h2 s (bset b (k + 1))) := by rw [← hs1]; exact HUr.out
          clear hs1 hb
          go_wp2_with (go_at_call 11; refine (HPt.out ha _ HTr.out).mono ?_; rintro e w3 ⟨rfl, k3, hT3⟩)
          go_roundg (16 - (k + 1))
          case rel => exact ⟨k + 1, by omega, rfl, by go_num, HKF.out _ _ _ _ (Nat.le_refl _) HKr.out k3, hT3, HU1.out.keep k3 (fun b h1 h2 e => by omega)⟩
          case measure => omega
      · have ha0 : bt a k = false := by simpa using ha
        have ha1 : (bits .and .u64 (a / 2 ^ k) 1 == 1) = false := ha0
        have hs2 := bset_skip a k ha0
        have HT1 : Hid (Te wr0 w.heap.size h1 t (bset a (k + 1))) := by rw [← hs2]; exact HTr.out
        clear hs2 ha
        by_cases hb : bt b k = true
        · have hb1 : (bits .and .u64 (b / 2 ^ k) 1 == 1) = true := hb
          go_wp2_with (go_at_call 11; refine (HPu.out hb _ HUr.out).mono ?_; rintro e w4 ⟨rfl, k4, hU4⟩)
          go_roundg (16 - (k + 1))
          case rel => exact ⟨k + 1, by omega, rfl, by go_num, HKF.out _ _ _ _ HK2.out.2.1 HKr.out k4, HT1.out.keep k4 (fun b h1 h2 e => by omega), hU4⟩
          case measure => omega
        · have hb0 : bt b k = false := by simpa using hb
          have hb1 : (bits .and .u64 (b / 2 ^ k) 1 == 1) = false := hb0
          have hs1 := bset_skip b k hb0
          have HU1 : Hid (Te wr0 h1 h2 s (bset b (k + 1))) := by rw [← hs1]; exact HUr.out
          clear hs1 hb
          go_wp2
          go_roundg (16 - (k + 1))
          case rel => exact ⟨k + 1, by omega, rfl, by go_num, HKr, HT1, HU1⟩
          case measure => omega
    · obtain rfl : k = 16 := by omega
      have HF0 : Hid (Fl wr0 (· < wr0.heap.size) p (zs.map encI)) := (HF.out.keep HKr.out (fun _ _ => id)).mono (fun b hb => Nat.lt_of_lt_of_le hb HKr.out.size)
      have HLt : Hid (∀ u, Kp (fun _ => False) wr0 u → Calls _ _ _ u _) := fun u ku => te_leads (HTr.out.keep ku (fun _ _ _ => id)) p c zs ((HF0.out.keep ku (fun _ _ => id)).mono (fun b hb => Nat.lt_of_lt_of_le hb ku.size)) (by have := HKz.out; omega)
      have HLu : Hid (∀ u, Kp (fun _ => False) wr0 u → Calls _ _ _ u _) := fun u ku => te_leads (HUr.out.keep ku (fun _ _ _ => id)) p c zs ((HF0.out.keep ku (fun _ _ => id)).mono (fun b hb => Nat.lt_of_lt_of_le hb ku.size)) (by have := HKz.out; omega)
      rw [HKz.out] at HLt HLu
      have HEnd : Hid (∀ u, Kp (fun _ => False) wr0 u → Kp (fun _ => False) w u) := fun u ku => HKr.out.trans ku (fun _ _ e => e)
      have HN3 : Hid (∀ u, Calls _ _ _ u _) := HN.out 3 (by omega)
      obtain ⟨ma, hma⟩ : ∃ x, x = maj (bset a 16) zs := ⟨_, rfl⟩
      obtain ⟨mb, hmb⟩ : ∃ x, x = maj (bset b 16) zs := ⟨_, rfl⟩
      rw [← hma] at HLt
      rw [← hmb] at HLu
      have HMa : Hid (ma = maj (bset a 16) zs) := hma
      have HMb : Hid (mb = maj (bset b 16) zs) := hmb
      clear hma hmb
      cases ma with
      | false =>
        go_wp2_with fail
        refine (HLt.out _ (Kp.refl _ _)).mono ?_
        rintro e w3 ⟨rfl, k3⟩
        go_wp2_with fail
        refine (HN3.out w3).mono ?_
        rintro e w4 ⟨q, rfl, k4, hT4⟩
        have HT4 : Hid (Te w4 w3.heap.size w4.heap.size q (List.replicate 16 false)) := hT4
        have HK4 : Hid (Kp (fun _ => False) w w4 ∧ w.heap.size ≤ w3.heap.size) := ⟨(HEnd.out _ k3).trans k4 (fun _ _ e => e), (HEnd.out _ k3).size⟩
        have HP4 : Hid (Calls _ _ _ w4 _) := te_promise HT4.out 0 (by omega) (has_rep 0)
        clear hT4 k4 HLt HLu
        go_wp2_with fail
        refine HP4.out.mono ?_
        rintro e w5 ⟨rfl, k5, hT5⟩
        have HT5 : Hid (Te w5 w3.heap.size w4.heap.size q ((List.replicate 16 false).set 0 true)) := hT5
        have HK5 : Hid (Kp (fun _ => False) w w5) := HK4.out.1.trans k5 (fun b hb e => by have := HK4.out.2; omega)
        clear hT5 k5 HP4
        have HA6 : Hid (Calls _ _ _ (w5.alloc (.cells #[.int .i64 0] 3)) _) := te_leadsN (HT5.out.keep ((Kp.refl (fun _ => False) w5).alloc _) (fun _ _ _ => id)) (some ⟨w5.heap.size, 0, none⟩) 1 1 [0] rfl (one_fl w5 0) (by omega) _ maj_one
        go_wp2_with fail
        refine HA6.out.mono ?_
        rintro e w6 ⟨rfl, k6⟩
        have k56 : Kp (fun _ => False) w5 w6 := ((Kp.refl (fun _ => False) w5).alloc _).trans k6 (fun _ _ e => e)
        have HT6 : Hid (Te w6 w3.heap.size w4.heap.size q ((List.replicate 16 false).set 0 true)) := HT5.out.keep k56 (fun _ _ _ => id)
        have HK6 : Hid (Kp (fun _ => False) w w6) := HK5.out.trans k56 (fun _ _ e => e)
        have HA7 : Hid (Calls _ _ _ (w6.alloc (.cells #[.int .i64 0, .int .i64 1] 3)) _) := te_leadsN (HT6.out.keep ((Kp.refl (fun _ => False) w6).alloc _) (fun _ _ _ => id)) (some ⟨w6.heap.size, 0, none⟩) 2 2 [0, 1] rfl (two_fl w6 0 1) (by omega) _ maj_two
        clear k6 k56 HA6 HT5 HK5
        go_wp2_with fail
        refine HA7.out.mono ?_
        rintro e w7 ⟨rfl, k7⟩
        have k67 : Kp (fun _ => False) w6 w7 := ((Kp.refl (fun _ => False) w6).alloc _).trans k7 (fun _ _ e => e)
        have HT7 : Hid (Te w7 w3.heap.size w4.heap.size q ((List.replicate 16 false).set 0 true)) := HT6.out.keep k67 (fun _ _ _ => id)
        have HK7 : Hid (Kp (fun _ => False) w w7) := HK6.out.trans k67 (fun _ _ e => e)
        have HA8 : Hid (Calls _ _ _ w7 _) := te_leadsN HT7.out none 0 0 [] rfl (fun j u hu => by simp at hu) (by omega) _ (maj_none _)
        clear k7 k67 HA7 HT6 HK6
        go_wp2_with (go_at_call 22; refine HA8.out.mono ?_; rintro e w8 ⟨rfl, k8⟩)
        go_ret
        exact ⟨rfl, HK7.out.trans k8 (fun _ _ e => e)⟩
      | true =>
        go_wp2_with fail
        refine (HLt.out _ (Kp.refl _ _)).mono ?_
        rintro e w3 ⟨rfl, k3⟩
        cases mb with
        | false =>
          go_wp2_with fail
          refine (HLu.out _ k3).mono ?_
          rintro e w3b ⟨rfl, k3b⟩
          have k3c := k3.trans k3b (fun _ _ e => e)
          go_wp2_with fail
          refine (HN3.out w3b).mono ?_
          rintro e w4 ⟨q, rfl, k4, hT4⟩
          have HT4 : Hid (Te w4 w3b.heap.size w4.heap.size q (List.replicate 16 false)) := hT4
          have HK4 : Hid (Kp (fun _ => False) w w4 ∧ w.heap.size ≤ w3b.heap.size) := ⟨(HEnd.out _ k3c).trans k4 (fun _ _ e => e), (HEnd.out _ k3c).size⟩
          have HP4 : Hid (Calls _ _ _ w4 _) := te_promise HT4.out 0 (by omega) (has_rep 0)
          clear hT4 k4 HLt HLu
          go_wp2_with fail
          refine HP4.out.mono ?_
          rintro e w5 ⟨rfl, k5, hT5⟩
          have HT5 : Hid (Te w5 w3b.heap.size w4.heap.size q ((List.replicate 16 false).set 0 true)) := hT5
          have HK5 : Hid (Kp (fun _ => False) w w5) := HK4.out.1.trans k5 (fun b hb e => by have := HK4.out.2; omega)
          clear hT5 k5 HP4
          have HA6 : Hid (Calls _ _ _ (w5.alloc (.cells #[.int .i64 0] 3)) _) := te_leadsN (HT5.out.keep ((Kp.refl (fun _ => False) w5).alloc _) (fun _ _ _ => id)) (some ⟨w5.heap.size, 0, none⟩) 1 1 [0] rfl (one_fl w5 0) (by omega) _ maj_one
          go_wp2_with fail
          refine HA6.out.mono ?_
          rintro e w6 ⟨rfl, k6⟩
          have k56 : Kp (fun _ => False) w5 w6 := ((Kp.refl (fun _ => False) w5).alloc _).trans k6 (fun _ _ e => e)
          have HT6 : Hid (Te w6 w3b.heap.size w4.heap.size q ((List.replicate 16 false).set 0 true)) := HT5.out.keep k56 (fun _ _ _ => id)
          have HK6 : Hid (Kp (fun _ => False) w w6) := HK5.out.trans k56 (fun _ _ e => e)
          have HA7 : Hid (Calls _ _ _ (w6.alloc (.cells #[.int .i64 0, .int .i64 1] 3)) _) := te_leadsN (HT6.out.keep ((Kp.refl (fun _ => False) w6).alloc _) (fun _ _ _ => id)) (some ⟨w6.heap.size, 0, none⟩) 2 2 [0, 1] rfl (two_fl w6 0 1) (by omega) _ maj_two
          clear k6 k56 HA6 HT5 HK5
          go_wp2_with fail
          refine HA7.out.mono ?_
          rintro e w7 ⟨rfl, k7⟩
          have k67 : Kp (fun _ => False) w6 w7 := ((Kp.refl (fun _ => False) w6).alloc _).trans k7 (fun _ _ e => e)
          have HT7 : Hid (Te w7 w3b.heap.size w4.heap.size q ((List.replicate 16 false).set 0 true)) := HT6.out.keep k67 (fun _ _ _ => id)
          have HK7 : Hid (Kp (fun _ => False) w w7) := HK6.out.trans k67 (fun _ _ e => e)
          have HA8 : Hid (Calls _ _ _ w7 _) := te_leadsN HT7.out none 0 0 [] rfl (fun j u hu => by simp at hu) (by omega) _ (maj_none _)
          clear k7 k67 HA7 HT6 HK6
          go_wp2_with (go_at_call 22; refine HA8.out.mono ?_; rintro e w8 ⟨rfl, k8⟩)
          go_ret
          exact ⟨rfl, HK7.out.trans k8 (fun _ _ e => e)⟩
        | true =>
          go_wp2_with fail
          refine (HLu.out _ k3).mono ?_
          rintro e w3b ⟨rfl, k3b⟩
          have k3c := k3.trans k3b (fun _ _ e => e)
          have HK3 : Hid (Kp (fun _ => False) w w3b) := HEnd.out _ k3c
          have HF3 : Hid (Fl w3b (· < wr0.heap.size) p (zs.map encI)) := HF0.out.keep k3c (fun _ _ => id)
          have HM : Hid (∃ x ∈ zs, hasN (bset a 16) x = true ∧ hasN (bset b 16) x = true) := meets HMa.out.symm HMb.out.symm
          clear k3 k3b k3c HLt HLu HF0
          go_wp2
          go_loopg [94] K (fun gk iv wr => ∃ k : Nat, k ≤ K ∧ gk = K - k ∧ iv = .int .i64 k ∧ w3b = wr ∧ Hid (∀ j, j < k → ¬ (hasN (bset a 16) (zs.getD j 0) = true ∧ hasN (bset b 16) (zs.getD j 0) = true)))
          case atStart => exact ⟨0, by omega, rfl, rfl, rfl, fun j hj => absurd hj (Nat.not_lt_zero _)⟩
          case round =>
            obtain ⟨k, hk, rfl, rfl, rfl, HJ⟩ := hrel
            by_cases hlt : (k : Int) < (K : Int)
            · have hkz : k < zs.length := by rw [HKz.out]; omega
              obtain ⟨bb, off, rfl, _, hcl⟩ := HF3.out k (encI zs[k]) (by rw [List.getElem?_map, List.getElem?_eq_getElem hkz]; rfl)
              obtain ⟨z, hz⟩ : ∃ z, z = zs[k] := ⟨_, rfl⟩
              have hzd : zs.getD k 0 = z := by rw [List.getD_eq_getElem?_getD, List.getElem?_eq_getElem hkz, hz]; rfl
              have HZ : Hid (zs.getD k 0 = z) := hzd
              have hcx : w3b.cell? ⟨bb, off + k, none⟩ = some (.int .i64 z) := by rw [hz]; exact hcl
              clear hcl hz hzd hkz
              have HJn : Hid (¬ (hasN (bset a 16) z = true ∧ hasN (bset b 16) z = true) → ∀ j, j < k + 1 → ¬ (hasN (bset a 16) (zs.getD j 0) = true ∧ hasN (bset b 16) (zs.getD j 0) = true)) := fun hno j hj => by
                by_cases e : j = k
                · subst e; rw [HZ.out]; exact hno
                · exact HJ.out j (by omega)
              clear HJ
              by_cases h0 : 0 ≤ z
              · by_cases h16 : z < 16
                · obtain ⟨n, rfl⟩ : ∃ n : Nat, z = (n : Int) := ⟨z.toNat, by omega⟩
                  have HA : Hid (hasN (bset a 16) n = bt a n) := by show _ = _; rw [bset_has _ _ _ (by omega), decide_eq_true (by omega), Bool.true_and]
                  have HBb : Hid (hasN (bset b 16) n = bt b n) := by show _ = _; rw [bset_has _ _ _ (by omega), decide_eq_true (by omega), Bool.true_and]
                  by_cases ha : bt a n = true
                  · have ha1 : (bits .and .u64 (a / 2 ^ n) 1 == 1) = true := ha
                    by_cases hb : bt b n = true
                    · have hb1 : (bits .and .u64 (b / 2 ^ n) 1 == 1) = true := hb
                      go_wp2
                      go_ret
                      exact ⟨rfl, HK3.out⟩
                    · have hb0 : bt b n = false := by simpa using hb
                      have hb1 : (bits .and .u64 (b / 2 ^ n) 1 == 1) = false := hb0
                      have HNo : Hid (¬ (hasN (bset a 16) n = true ∧ hasN (bset b 16) n = true)) := fun e => by have := e.2; rw [HBb.out, hb0] at this; cases this
                      go_wp2
                      go_roundg (K - (k + 1))
                      case rel => exact ⟨k + 1, by omega, rfl, by go_num, rfl, HJn.out HNo.out⟩
                      case measure => omega
                  · have ha0 : bt a n = false := by simpa using ha
                    have ha1 : (bits .and .u64 (a / 2 ^ n) 1 == 1) = false := ha0
                    have HNo : Hid (¬ (hasN (bset a 16) n = true ∧ hasN (bset b 16) n = true)) := fun e => by have := e.1; rw [HA.out, ha0] at this; cases this
                    go_wp2
                    go_roundg (K - (k + 1))
                    case rel => exact ⟨k + 1, by omega, rfl, by go_num, rfl, HJn.out HNo.out⟩
                    case measure => omega
                · have HNo : Hid (¬ (hasN (bset a 16) z = true ∧ hasN (bset b 16) z = true)) := fun e => by have := e.1; rw [hasN_big (bset_len a 16) h16] at this; cases this
                  go_wp2
                  go_roundg (K - (k + 1))
                  case rel => exact ⟨k + 1, by omega, rfl, by go_num, rfl, HJn.out HNo.out⟩
                  case measure => omega
              · have HNo : Hid (¬ (hasN (bset a 16) z = true ∧ hasN (bset b 16) z = true)) := fun e => by have := e.1; rw [hasN_neg h0] at this; cases this
                go_wp2
                go_roundg (K - (k + 1))
                case rel => exact ⟨k + 1, by omega, rfl, by go_num, rfl, HJn.out HNo.out⟩
                case measure => omega
            · exfalso
              obtain ⟨x, hx, h1, h2⟩ := HM.out
              obtain ⟨j, hj, rfl⟩ := List.getElem_of_mem hx
              refine HJ.out j (by rw [HKz.out] at hj; omega) ?_
              rw [List.getD_eq_getElem?_getD, List.getElem?_eq_getElem hj]
              exact ⟨h1, h2⟩
end Go.Proofs.Ytjpdbhkggcojaaa
