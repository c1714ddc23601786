/- The walk of the law DriftLives: the program's clocks beside the reference's. -/
import Derived.Test.YtdhlmplpdmcjoaaRn
import Derived.Test.YtdhlmplpdmcjoaaDg
import Derived.Test.YtdhlmplpdmcjoaaDw
namespace Go.Proofs.Ytdhlmplpdmcjoaa
open Go.RowKit Go.Deep Go.Maps

set_option maxRecDepth 100000 in
set_option maxHeartbeats 800000 in
theorem rknew_not (n : Int) (w : World) (h : n < 1 ∨ 16 < n) :
    Calls Try.prog 29 #[.int .i64 n] w fun e w' => e = .returned (.tuple #[.pointer none, .int .i64 1]) ∧ Kp (fun _ => False) w w' := by
  by_cases h1 : n < 1
  · have d1 : decide (n < 1) = true := decide_eq_true h1
    clear h
    go_enter Try.func29, Try.ntmps29
    go_wp2
    go_ret2
    exact ⟨rfl, Kp.refl _ _⟩
  · have d1 : decide (n < 1) = false := decide_eq_false h1
    have d2 : decide (16 < n) = true := decide_eq_true (by omega)
    clear h h1
    go_enter Try.func29, Try.ntmps29
    go_wp2
    go_ret2
    exact ⟨rfl, Kp.refl _ _⟩

/-- both beside each other: the program's below D, the reference's not -/
structure Bd (w : World) (D b t m x t' l N : Nat) (R : Nat → Nat) (h : List Nat) : Prop where
  c : Cs w b t m N h
  r : Rs w x t' l N R h
  b1 : b < D
  b2 : t < D
  b3 : m < D
  r1 : D ≤ x
  r2 : D ≤ t'
  r3 : D ≤ l
  r4 : ∀ a, a < N → D ≤ R a
theorem Bd.keep {w w' : World} {D b t m x t' l N : Nat} {R : Nat → Nat} {h : List Nat} (H : Bd w D b t m x t' l N R h) (k : Kp (fun _ => False) w w') : Bd w' D b t m x t' l N R h :=
  ⟨H.c.keep k id id id, H.r.keep k id id id (fun _ _ => id), H.b1, H.b2, H.b3, H.r1, H.r2, H.r3, H.r4⟩
/-- both tick -/
theorem bdtick {w : World} {D b t m x t' l N : Nat} {R : Nat → Nat} {h : List Nat} (H : Bd w D b t m x t' l N R h) (y : Int) (hl : (h.length : Int) ≤ 4611686018427387904) :
    Calls Try.prog 32 #[.pointer (some ⟨b, 0, none⟩), .int .i64 y] w fun e w1 => e = .returned (.int .i64 (tickE N h y)) ∧ Kp (fun z => z = t ∨ z = m) w w1 ∧
      Calls Try.prog 33 #[.pointer (some ⟨x, 0, none⟩), .int .i64 y] w1 fun e w2 => e = .returned (.int .i64 (tickE N h y)) ∧ Kp (fun z => z = t' ∨ ∃ a, a < N ∧ z = R a) w1 w2 ∧ Bd w2 D b t m x t' l N R (tickH N h y) := by
  refine (cktick_cs H.c y hl).mono fun e w1 ⟨he, k1, hC⟩ => ⟨he, k1, ?_⟩
  have hb2 := H.b2
  have hb3 := H.b3
  have hR1 := H.r.keep k1 (by have := H.r1; omega) (by have := H.r2; omega) (by have := H.r3; omega) (fun a ha => by have := H.r4 a ha; omega)
  refine (rktick_rs hR1 y hl).mono fun e w2 ⟨he2, k2, hR⟩ => ⟨he2, k2, hC.keep k2 ?_ ?_ ?_, hR, H.b1, H.b2, H.b3, H.r1, H.r2, H.r3, H.r4⟩
  · rintro (e | ⟨a, ha, e⟩)
    · have := H.r2; have := H.b1; omega
    · have := H.r4 a ha; have := H.b1; omega
  · rintro (e | ⟨a, ha, e⟩)
    · have := H.r2; omega
    · have := H.r4 a ha; omega
  · rintro (e | ⟨a, ha, e⟩)
    · have := H.r2; omega
    · have := H.r4 a ha; omega

set_option maxRecDepth 100000 in
set_option maxHeartbeats 1600000 in
theorem driftLives_no (a0 : Int) (v : Value) (w : World) (h : a0 < 1 ∨ 16 < a0) :
    Calls Try.prog 7 #[.int .i64 a0, v] w fun e w' => e = .returned (.bool true) ∧ Kp (fun _ => False) w w' := by
  have H1 : Hid (∀ w, Calls _ _ _ w _) := fun w => cknew_not a0 w h
  have H2 : Hid (∀ w, Calls _ _ _ w _) := fun w => rknew_not a0 w h
  clear h
  go_enter Try.func7, Try.ntmps7
  go_wp2_with (first
    | (go_at_call 28; refine (H1.out _).mono ?_; rintro e w1 ⟨rfl, k1⟩)
    | (go_at_call 29; refine (H2.out _).mono ?_; rintro e w2 ⟨rfl, k2⟩))
  go_ret
  exact ⟨rfl, k1.trans k2 (fun _ _ e => e)⟩

set_option maxRecDepth 100000 in
set_option maxHeartbeats 1600000 in
theorem driftLives_ok (N : Nat) (v : Value) (L : Nat) (w : World) (hv : Ints w v L) (hN1 : 1 ≤ (N : Int)) (hN16 : (N : Int) ≤ 16) :
    Calls Try.prog 7 #[.int .i64 (N : Int), v] w fun e w' => e = .returned (.bool true) ∧ Kp (fun _ => False) w w' := by
  obtain ⟨p, c, zs, rfl, hzl, hc, hz, hL⟩ := hv
  have HLL : Hid (L * 8 ≤ 140737488355328) := hL
  have HZ : Hid (Iz w p zs) := hz
  have HZL : Hid (zs.length = L) := hzl
  have HN1 : Hid (∀ w, Calls _ _ _ w _) := fun w => cknew_cs N w hN1 hN16
  have HN2 : Hid (∀ w, Calls _ _ _ w _) := fun w => rknew_ok N w hN1 hN16
  clear hL hz hzl hc
  go_enter Try.func7, Try.ntmps7
  go_wp2_with (first
    | (go_at_call 28; refine (HN1.out _).mono ?_; rintro e w1 ⟨b, t, m, rfl, k1, hb, ht, hm, HC⟩)
    | (go_at_call 29; refine (HN2.out _).mono ?_; rintro e w2 ⟨x, t', l, R, rfl, k2, hx, ht', hl, hR, HRs⟩))
  have HD : Hid (Bd w2 w1.heap.size b t m x t' l N R []) := by
    have hbl : b < w1.heap.size := HC.1.lt
    have htl : t < w1.heap.size := HC.1.row.lt
    have hml : m < w1.heap.size := HC.1.mp.lt
    exact ⟨HC.keep k2 id id id, HRs, hbl, htl, hml, hx, ht', hl, hR⟩
  obtain ⟨D, hD⟩ : ∃ D, D = w1.heap.size := ⟨_, rfl⟩
  rw [← hD] at HD hx ht' hl hR
  have HDw : Hid (w.heap.size ≤ D) := by show _ ≤ _; rw [hD]; exact k1.size
  have HBt : Hid (w.heap.size ≤ t ∧ w.heap.size ≤ m ∧ w.heap.size ≤ t' ∧ ∀ a, a < N → w.heap.size ≤ R a) := ⟨ht, hm, Nat.le_trans HDw.out ht', fun a ha => Nat.le_trans HDw.out (hR a ha)⟩
  have k02 : Kp (fun _ => False) w w2 := k1.trans k2 (fun _ _ e => e)
  clear hD hx ht' hl hR HC HRs hb ht hm k1 k2
  go_loopg [49] L (fun gk i wr => ∃ (k : Nat) (h : List Nat), k ≤ L ∧ gk = L - k ∧ i = .int .i64 k ∧ Kp (fun _ => False) w wr ∧ Hid (Bd wr D b t m x t' l N R h) ∧ Hid (h.length ≤ k))
  case atStart => exact ⟨0, [], Nat.zero_le _, rfl, rfl, k02, HD, Nat.le_refl _⟩
  case round =>
    obtain ⟨k, h, hk, rfl, rfl, kr, HDr, hlen⟩ := hrel
    clear HD k02
    by_cases hlt : (k : Int) < (L : Int)
    · obtain ⟨pb, po, rfl, hcell⟩ := HZ.out.keep kr (fun _ _ => id) k (by have := HZL.out; omega)
      obtain ⟨z, hz⟩ : ∃ z, z = zs.getD k 0 := ⟨_, rfl⟩
      rw [← hz] at hcell
      have HK1 : Hid (wrap64 ((k : Int) + 1) = ((k + 1 : Nat) : Int)) := wrap64_succ k L hk HLL.out
      have HM1 : Hid (Calls _ _ _ wr _) := ckmay_cs HDr.out.c z
      have HM2 : Hid (∀ u, Kp (fun _ => False) wr u → Calls _ _ _ u _) := fun u ku => rkmay_rs (HDr.out.keep ku).r z
      have HT1 : Hid (∀ u, Kp (fun _ => False) wr u → Calls _ _ _ u _) := fun u ku => bdtick (HDr.out.keep ku) z (by have := hlen.out; have := HLL.out; omega)
      generalize mayX N h z = bb at HM1 HM2
      obtain ⟨ee, hee⟩ : ∃ ee, ee = tickE N h z := ⟨_, rfl⟩
      obtain ⟨h2, hh2⟩ : ∃ h2, h2 = tickH N h z := ⟨_, rfl⟩
      rw [← hee, ← hh2] at HT1
      have HLh : Hid (h2.length ≤ k + 1) := by
        show _ ≤ _
        rw [hh2]
        have := tickH_len N h z
        have := hlen.out
        omega
      obtain ⟨nn, hnn⟩ : ∃ nn, nn = nowX N h2 z := ⟨_, rfl⟩
      have HN1' : Hid (∀ u, Bd u D b t m x t' l N R h2 → Calls _ _ _ u _) := fun u hu => cknow_cs hu.c z
      have HN2' : Hid (∀ u, Bd u D b t m x t' l N R h2 → Calls _ _ _ u _) := fun u hu => rknow_rs hu.r z
      rw [← hnn] at HN1' HN2'
      clear hz hee hh2 hnn
      go_wp2_with (first
        | (go_at_call 30; refine HM1.out.mono ?_; rintro e w3 ⟨rfl, k3⟩)
        | (go_at_call 31; refine (HM2.out _ k3).mono ?_; rintro e w4 ⟨rfl, k4⟩; have k34 := k3.trans k4 (fun _ _ e => e))
        | (go_at_call 32; refine (HT1.out _ k34).mono ?_; rintro e w5 ⟨rfl, k5, HT2⟩; have HT2' : Hid (Calls _ _ _ w5 _) := HT2; clear HT2)
        | (go_at_call 33; refine HT2'.out.mono ?_; rintro e w6 ⟨rfl, k6, HD6⟩; have HD6' : Hid (Bd w6 D b t m x t' l N R h2) := HD6; clear HD6)
        | (go_at_call 34; refine (HN1'.out _ HD6'.out).mono ?_; rintro e w7 ⟨rfl, k7⟩)
        | (go_at_call 35; refine (HN2'.out _ (HD6'.out.keep k7)).mono ?_; rintro e w8 ⟨rfl, k8⟩))
      go_roundg (L - (k + 1))
      case rel =>
        have k78 := k7.trans k8 (fun _ _ e => e)
        refine ⟨k + 1, h2, by omega, rfl, by rw [HK1.out], ?_, HD6'.out.keep k78, HLh⟩
        refine (((kr.trans k34 (fun _ _ e => e)).trans k5 (fun y hy e => ?_)).trans k6 (fun y hy e => ?_)).trans k78 (fun _ _ e => e)
        · have := HBt.out.1; have := HBt.out.2.1; omega
        · rcases e with e | ⟨a, ha, e⟩
          · have := HBt.out.2.2.1; omega
          · have := HBt.out.2.2.2 a ha; omega
      case measure => omega
    · obtain rfl : k = L := by omega
      go_wp2
      obtain ⟨wr0, hwr0⟩ : ∃ y, y = wr := ⟨_, rfl⟩
      rw [← hwr0] at kr HDr ⊢
      clear hwr0
      go_loopg [80] N (fun gk i wq => ∃ j : Nat, j ≤ N ∧ gk = N - j ∧ i = .int .i64 j ∧ Kp (fun _ => False) wr0 wq)
      case atStart => exact ⟨0, Nat.zero_le _, rfl, rfl, Kp.refl _ _⟩
      case round =>
        obtain ⟨j, hj, rfl, rfl, kq⟩ := hrel
        by_cases hltj : (j : Int) < (N : Int)
        · have HN1' : Hid (Calls _ _ _ wr _) := cknow_cs (HDr.out.keep kq).c (j : Int)
          have HN2' : Hid (∀ u, Kp (fun _ => False) wr u → Calls _ _ _ u _) := fun u hu => rknow_rs ((HDr.out.keep kq).keep hu).r (j : Int)
          generalize nowX N h (j : Int) = nn at HN1' HN2'
          go_wp2_with (first
            | (go_at_call 34; refine HN1'.out.mono ?_; rintro e w7 ⟨rfl, k7⟩)
            | (go_at_call 35; refine (HN2'.out _ k7).mono ?_; rintro e w8 ⟨rfl, k8⟩))
          go_roundg (N - (j + 1))
          case rel => exact ⟨j + 1, by omega, rfl, by go_num, (kq.trans k7 (fun _ _ e => e)).trans k8 (fun _ _ e => e)⟩
          case measure => omega
        · have HN1' : Hid (Calls Try.prog 34 #[.pointer (some ⟨b, 0, none⟩), .int .i64 (-1)] wr fun e w' => e = .returned (.int .i64 0) ∧ Kp (fun _ => False) wr w') := by
            have := cknow_cs (HDr.out.keep kq).c (-1)
            rw [show nowX N h (-1) = 0 from by unfold nowX; rw [if_pos (by omega)]] at this
            exact this
          have HW5 : Hid (∀ w, Calls Try.prog 36 #[.int .i64 5] w fun e w' => e = .returned (.int .i64 13) ∧ w' = w) := fun w => by
            have := wait_ok 5 w
            rw [show 2 * waits 5 + 3 = 13 from by unfold waits; omega] at this
            exact this
          go_wp2_with (first
            | (go_at_call 34; refine HN1'.out.mono ?_; rintro e w7 ⟨rfl, k7⟩)
            | (go_at_call 36; refine (HW5.out _).mono ?_; rintro e w' ⟨rfl, hw'⟩; obtain rfl := hw'.symm; clear hw'))
          go_ret
          exact ⟨rfl, (kr.trans kq (fun _ _ e => e)).trans k7 (fun _ _ e => e)⟩

theorem driftLives_walk (a0 : Int) (v : Value) (L : Nat) (w : World) (hv : Ints w v L) :
    Calls Try.prog 7 #[.int .i64 a0, v] w fun e w' => e = .returned (.bool true) ∧ Kp (fun _ => False) w w' := by
  by_cases h : a0 < 1 ∨ 16 < a0
  · exact driftLives_no a0 v w h
  · obtain ⟨N, rfl⟩ : ∃ N : Nat, a0 = (N : Int) := ⟨a0.toNat, by omega⟩
    exact driftLives_ok N v L w hv (by omega) (by omega)
end Go.Proofs.Ytdhlmplpdmcjoaa
