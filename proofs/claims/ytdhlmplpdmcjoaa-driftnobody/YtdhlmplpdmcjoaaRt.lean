/- A clock of the reference's ticks. -/
import Derived.Test.YtdhlmplpdmcjoaaRk
import Derived.Test.YtdhlmplpdmcjoaaDk
namespace Go.Proofs.Ytdhlmplpdmcjoaa
set_option linter.unusedVariables false
open Go.RowKit Go.Deep Go.Maps

theorem Rk.setLead {w : World} {x t l N : Nat} {R T : Nat → Nat} {L : Nat → Nat → Nat} (h : Rk w x t l N R T L) (a b c : Nat) (ha : a < N) (hb : b < N) :
    Rk (w.setCell ⟨R b, a, none⟩ (.int .i64 (c : Int))) x t l N R T (fun a' b' => if a' = a ∧ b' = b then c else L a' b') := by
  have k : Kp (fun y => y = R b) w (w.setCell ⟨R b, a, none⟩ (.int .i64 (c : Int))) := (Kp.refl (fun y => y = R b) _).setCell (fun _ => rfl) _
  refine ⟨k.cellv h.c0 (h.xr b hb), (by obtain ⟨cap, hc, c1⟩ := h.c1; exact ⟨cap, hc, k.cellv c1 (h.xr b hb)⟩), k.row h.row (h.tr b hb), fun a' ha' => k.cellv (h.out a' ha') (h.lr b hb), fun b' hb' => ?_, h.xt, h.xl, h.tl, h.xr, h.tr, h.lr, h.rr, h.n1, h.n2⟩
  by_cases e : b' = b
  · subst e
    refine ((h.inn b' hb').set a _).congr (fun a' _ => ?_)
    by_cases e2 : a' = a
    · rw [if_pos e2, if_pos ⟨e2, rfl⟩]
    · rw [if_neg e2, if_neg (fun e3 => e2 e3.1)]
  · refine (k.row (h.inn b' hb') (fun e2 => e (h.rr b' b hb' hb e2))).congr (fun a' _ => ?_)
    rw [if_neg (fun e3 => e e3.2)]

set_option maxRecDepth 100000 in
set_option maxHeartbeats 1600000 in
theorem rktick_ok0 {w : World} {x t l N : Nat} {R T : Nat → Nat} {L : Nat → Nat → Nat} (h : Rk w x t l N R T L) (n : Nat) (hn : (n : Int) < (N : Int)) (hself : L n n = 0) (hm : ∀ o, o < N → L n o < 2) (hL : ∀ o, o < N → L o n ≤ 2) (hT : (T n : Int) ≤ 4611686018427387904) :
    Calls Try.prog 33 #[.pointer (some ⟨x, 0, none⟩), .int .i64 (n : Int)] w fun e w' => e = .returned (.int .i64 0) ∧ Kp (fun y => y = t ∨ ∃ a, a < N ∧ y = R a) w w' ∧ Rk w' x t l N R (tickT n T) (tickTo n N L) := by
  have H1 : Hid (Calls _ _ _ w _) := there_ok h n hn
  have H0 := rkmay_ok h n hn hself
  rw [decide_eq_true hm] at H0
  have H2 : Hid (Calls _ _ _ w _) := H0
  have HC : Hid (Rk w x t l N R T L) := h
  have hN16 : (N : Int) ≤ 16 := by have := h.n2; omega
  have HM : Hid (∀ o, o < N → L n o < 2) := hm
  have HL : Hid (∀ o, o < N → L o n ≤ 2) := hL
  have HT : Hid ((T n : Int) ≤ 4611686018427387904) := hT
  have hw1 : IntKind.i64.wrap ((T n : Int) + 1) = (T n : Int) + 1 := by rw [IntKind.wrap_i64]; omega
  have hbt : ¬ x = t := h.xt
  have htb : ¬ t = x := fun e => h.xt e.symm
  clear h hm hL hT H0 hself
  go_enter Try.func33, Try.ntmps33
  go_wp2_with (first
    | (go_at_call 53; refine H1.out.mono ?_; rintro e w' ⟨rfl, hw⟩; obtain rfl := hw.symm; clear hw)
    | (go_at_call 31; refine H2.out.mono ?_; rintro e w1 ⟨rfl, k1⟩; have HC1 : Hid (Rk w1 x t l N R T L) := HC.out.keep k1 id id id (fun _ _ => id); have c0 := HC1.out.c0; have cn := HC1.out.row.cell (i := n) (by omega); have fn := HC1.out.row.frozen n))
  have kset : Kp (fun y => y = t ∨ ∃ a, a < N ∧ y = R a) w (w1.setCell ⟨t, n, none⟩ (.int .i64 ((T n : Int) + 1))) := (k1.mono (fun _ _ e => e.elim)).setCell (fun _ => Or.inl rfl) _
  have HC2 : Hid (Rk (w1.setCell ⟨t, n, none⟩ (.int .i64 ((T n : Int) + 1))) x t l N R (tickT n T) (tickTo n 0 L)) := by
    have h1 := HC1.out
    have ks : Kp (fun y => y = t) w1 (w1.setCell ⟨t, n, none⟩ (.int .i64 ((T n : Int) + 1))) := (Kp.refl (fun y => y = t) _).setCell (fun _ => rfl) _
    refine ⟨ks.cellv h1.c0 h1.xt, (by obtain ⟨cap, hc, c1⟩ := h1.c1; exact ⟨cap, hc, ks.cellv c1 h1.xt⟩), (h1.row.set n _).congr (fun i _ => ?_), fun a ha => ks.cellv (h1.out a ha) (fun e => h1.tl e.symm), fun a ha => (ks.row (h1.inn a ha) (fun e => h1.tr a ha e.symm)).congr (fun b _ => by rw [tickTo_zero]), h1.xt, h1.xl, h1.tl, h1.xr, h1.tr, h1.lr, h1.rr, h1.n1, h1.n2⟩
    unfold tickT
    by_cases e : i = n
    · subst e; rw [if_pos rfl, if_pos rfl]; simp
    · rw [if_neg e, if_neg e]
  obtain ⟨w2, hw2⟩ : ∃ y, y = w1.setCell ⟨t, n, none⟩ (.int .i64 ((T n : Int) + 1)) := ⟨_, rfl⟩
  rw [← hw2] at kset HC2 ⊢
  clear hw2 HC1 c0 cn fn k1 HC H1 H2 hw1 HT hbt htb
  go_loopg [28] N (fun gk i wr => ∃ k : Nat, k ≤ N ∧ gk = N - k ∧ i = .int .i64 k ∧ Kp (fun y => y = t ∨ ∃ a, a < N ∧ y = R a) w wr ∧ Hid (Rk wr x t l N R (tickT n T) (tickTo n k L)))
  case atStart => exact ⟨0, Nat.zero_le _, rfl, rfl, kset, HC2⟩
  case round =>
    obtain ⟨k, hk, rfl, rfl, kr, HCr⟩ := hrel
    clear HC2 kset
    by_cases hlt : (k : Int) < (N : Int)
    · by_cases hkn : k = n
      · have dkn : ((k : Int) == (n : Int)) = true := by simp; omega
        subst hkn
        go_wp2
        go_roundg (N - (k + 1))
        case rel => exact ⟨k + 1, by omega, rfl, by go_num, kr, HCr.out.congr (fun _ _ => rfl) (fun a b _ _ => (tickTo_self k L a b).symm)⟩
        case measure => omega
      · have hkn' : ¬ (k : Int) = (n : Int) := by omega
        have dkn : ((k : Int) == (n : Int)) = false := by simp; omega
        obtain ⟨cap, hcap, c1⟩ := HCr.out.c1
        have hnN : n < N := by omega
        have hkN : k < N := by omega
        have ca := HCr.out.out k hkN
        have cb := (HCr.out.inn k hkN).cell (i := n) hnN
        have fb := (HCr.out.inn k hkN).frozen n
        rw [tickTo_at1 n k L hkn] at cb
        have hL1 : (L n k : Int) ≤ 1 := by have := HM.out k hkN; omega
        have hL2 : ((L k n : Nat) : Int) ≤ 3 := by have := HL.out k hkN; omega
        obtain ⟨l1, hl1⟩ : ∃ y, y = L n k := ⟨_, rfl⟩
        obtain ⟨l2, hl2⟩ : ∃ y, y = L k n := ⟨_, rfl⟩
        have HX2 : Hid (tickTo n k L k n = l2) := by rw [hl2]; exact tickTo_at2 n k L hkn
        have HX3 : Hid (∀ a b, (if a = k ∧ b = n then l2 - 2 else if a = n ∧ b = k then l1 + 1 else tickTo n k L a b) = tickTo n (k + 1) L a b) := by rw [hl1, hl2]; exact tickTo_next n k L hkn
        rw [← hl1] at cb hL1
        rw [← hl2] at hL2
        clear hl1 hl2
        go_wp2
        obtain ⟨w3, hw3⟩ : ∃ y, y = wr.setCell ⟨R k, n, none⟩ (.int .i64 ((l1 : Int) + 1)) := ⟨_, rfl⟩
        have HC3 : Hid (Rk w3 x t l N R (tickT n T) (fun a b => if a = n ∧ b = k then l1 + 1 else tickTo n k L a b)) := by rw [hw3]; exact HCr.out.setLead n k (l1 + 1) hnN hkN
        have k3 : Kp (fun y => y = t ∨ ∃ a, a < N ∧ y = R a) w w3 := by rw [hw3]; exact kr.setCell (fun _ => Or.inr ⟨k, hkN, rfl⟩) _
        rw [← hw3]
        clear hw3 HCr kr ca cb fb c1
        obtain ⟨cap3, hcap3, c13⟩ := HC3.out.c1
        have ca3 := HC3.out.out n hnN
        have cb3 := (HC3.out.inn n hnN).cell (i := k) hkN
        have fb3 := (HC3.out.inn n hnN).frozen k
        rw [if_neg (fun e => hkn e.1), HX2.out] at cb3
        have hmx : max 0 ((l2 : Int) - 2) = ((l2 - 2 : Nat) : Int) := by omega
        refine wp_region_still_tail 21 (by kernel_rfl) (by kernel_rfl) ?_
        have kd : Kp (fun _ => False) w3 { w3 with drawn := w3.drawn + 1 } := (Kp.refl _ _).drew
        have HC4 : Hid (Rk { w3 with drawn := w3.drawn + 1 } x t l N R (tickT n T) (fun a b => if a = n ∧ b = k then l1 + 1 else tickTo n k L a b)) := HC3.out.keep kd id id id (fun _ _ => id)
        have k4 : Kp (fun y => y = t ∨ ∃ a, a < N ∧ y = R a) w { w3 with drawn := w3.drawn + 1 } := k3.trans kd (fun _ _ e => e.elim)
        have c14 := kd.cellv c13 id
        have ca4 := kd.cellv ca3 id
        have cb4 := kd.cellv cb3 id
        have fb4 := (HC4.out.inn n hnN).frozen k
        obtain ⟨w4, hw4⟩ : ∃ y, y = { w3 with drawn := w3.drawn + 1 } := ⟨_, rfl⟩
        rw [← hw4] at HC4 k4 c14 ca4 cb4 fb4 ⊢
        clear hw4 kd HC3 k3 c13 ca3 cb3 fb3
        simp only [List.take_succ_cons, List.take_zero, List.drop_succ_cons, List.drop_zero]
        iterate 21 still_step
        refine wpStill_nil ?_
        go_wp2
        have HC5 : Hid (Rk (w4.setCell ⟨R n, k, none⟩ (.int .i64 ((l2 - 2 : Nat) : Int))) x t l N R (tickT n T) (tickTo n (k + 1) L)) := (HC4.out.setLead k n (l2 - 2) hkN hnN).congr (fun _ _ => rfl) (fun a b _ _ => HX3.out a b)
        have k5 : Kp (fun y => y = t ∨ ∃ a, a < N ∧ y = R a) w (w4.setCell ⟨R n, k, none⟩ (.int .i64 ((l2 - 2 : Nat) : Int))) := k4.setCell (fun _ => Or.inr ⟨n, hnN, rfl⟩) _
        go_roundg (N - (k + 1))
        case rel => exact ⟨k + 1, by omega, rfl, by go_num, k5, HC5⟩
        case measure => omega
    · go_wp2
      go_ret
      obtain rfl : k = N := by omega
      exact ⟨rfl, kr, HCr.out⟩
end Go.Proofs.Ytdhlmplpdmcjoaa
