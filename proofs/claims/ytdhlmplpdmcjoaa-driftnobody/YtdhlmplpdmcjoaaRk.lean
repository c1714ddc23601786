/- The reference's clocks in memory. -/
import Derived.Test.YtdhlmplpdmcjoaaDn
namespace Go.Proofs.Ytdhlmplpdmcjoaa
open Go.RowKit Go.Deep Go.Maps

/-- the reference's clocks at block x: what they tell at t, the rows of leads at l (row a, at R a, has at b how far b leads a) -/
structure Rk (w : World) (x t l N : Nat) (R : Nat → Nat) (T : Nat → Nat) (L : Nat → Nat → Nat) : Prop where
  c0 : w.cell? ⟨x, 0, none⟩ = some (.slice (some ⟨t, 0, none⟩) N N)
  c1 : ∃ cap, N ≤ cap ∧ w.cell? ⟨x, 1, none⟩ = some (.slice (some ⟨l, 0, none⟩) N cap)
  row : w.rowIs t 3 N (fun j => .int .i64 ((T j : Nat) : Int))
  out : ∀ a, a < N → w.cell? ⟨l, a, none⟩ = some (.slice (some ⟨R a, 0, none⟩) N N)
  inn : ∀ a, a < N → w.rowIs (R a) 3 N (fun b => .int .i64 ((L b a : Nat) : Int))
  xt : x ≠ t
  xl : x ≠ l
  tl : t ≠ l
  xr : ∀ a, a < N → x ≠ R a
  tr : ∀ a, a < N → t ≠ R a
  lr : ∀ a, a < N → l ≠ R a
  rr : ∀ a b, a < N → b < N → R a = R b → a = b
  n1 : 1 ≤ N
  n2 : N ≤ 16
theorem Rk.lt {w : World} {x t l N : Nat} {R T : Nat → Nat} {L : Nat → Nat → Nat} (h : Rk w x t l N R T L) : x < w.heap.size := World.block_lt_of_cell? w _ h.c0
theorem Rk.keep {S : Nat → Prop} {w w' : World} {x t l N : Nat} {R T : Nat → Nat} {L : Nat → Nat → Nat} (h : Rk w x t l N R T L) (k : Kp S w w') (hx : ¬ S x) (ht : ¬ S t) (hl : ¬ S l) (hr : ∀ a, a < N → ¬ S (R a)) : Rk w' x t l N R T L :=
  ⟨k.cellv h.c0 hx, (by obtain ⟨cap, hc, c1⟩ := h.c1; exact ⟨cap, hc, k.cellv c1 hx⟩), k.row h.row ht, fun a ha => k.cellv (h.out a ha) hl, fun a ha => k.row (h.inn a ha) (hr a ha), h.xt, h.xl, h.tl, h.xr, h.tr, h.lr, h.rr, h.n1, h.n2⟩
theorem Rk.congr {w : World} {x t l N : Nat} {R T T' : Nat → Nat} {L L' : Nat → Nat → Nat} (h : Rk w x t l N R T L) (e1 : ∀ j, j < N → T j = T' j) (e2 : ∀ a b, a < N → b < N → L a b = L' a b) : Rk w x t l N R T' L' :=
  ⟨h.c0, h.c1, h.row.congr (fun j hj => by rw [e1 j hj]), h.out, fun a ha => (h.inn a ha).congr (fun b hb => by rw [e2 b a hb ha]), h.xt, h.xl, h.tl, h.xr, h.tr, h.lr, h.rr, h.n1, h.n2⟩

set_option maxRecDepth 100000 in
set_option maxHeartbeats 400000 in
theorem there_ok {w : World} {x t l N : Nat} {R T : Nat → Nat} {L : Nat → Nat → Nat} (h : Rk w x t l N R T L) (n : Nat) (hn : (n : Int) < (N : Int)) :
    Calls Try.prog 53 #[.pointer (some ⟨x, 0, none⟩), .int .i64 (n : Int)] w fun e w' => e = .returned (.bool true) ∧ w' = w := by
  have c0 := h.c0
  have d1 : decide ((n : Int) < (N : Int)) = true := decide_eq_true hn
  clear h
  go_enter Try.func53, Try.ntmps53
  go_wp2
  go_ret
  exact ⟨rfl, rfl⟩

set_option maxRecDepth 100000 in
set_option maxHeartbeats 400000 in
theorem there_not {w : World} {x t l N : Nat} {R T : Nat → Nat} {L : Nat → Nat → Nat} (h : Rk w x t l N R T L) (n : Int) (hn : n < 0 ∨ (N : Int) ≤ n) :
    Calls Try.prog 53 #[.pointer (some ⟨x, 0, none⟩), .int .i64 n] w fun e w' => e = .returned (.bool false) ∧ w' = w := by
  have c0 := h.c0
  clear h
  by_cases h0 : n < 0
  · have d1 : decide (0 ≤ n) = false := by simp; omega
    clear hn
    go_enter Try.func53, Try.ntmps53
    go_wp2
    go_ret
    exact ⟨rfl, rfl⟩
  · have d1 : decide (0 ≤ n) = true := by simp; omega
    have d2 : decide (n < (N : Int)) = false := by simp; omega
    clear hn h0
    go_enter Try.func53, Try.ntmps53
    go_wp2
    go_ret
    exact ⟨rfl, rfl⟩

set_option maxRecDepth 100000 in
set_option maxHeartbeats 800000 in
theorem rknow_ok {w : World} {x t l N : Nat} {R T : Nat → Nat} {L : Nat → Nat → Nat} (h : Rk w x t l N R T L) (n : Nat) (hn : (n : Int) < (N : Int)) :
    Calls Try.prog 35 #[.pointer (some ⟨x, 0, none⟩), .int .i64 (n : Int)] w fun e w' => e = .returned (.int .i64 ((T n : Nat) : Int)) ∧ Kp (fun _ => False) w w' := by
  have H2 : Hid (Calls _ _ _ w _) := there_ok h n hn
  have c0 := h.c0
  have cn := h.row.cell (i := n) (by omega)
  clear h
  go_enter Try.func35, Try.ntmps35
  go_wp2_with (go_at_call 53; refine H2.out.mono ?_; rintro e w' ⟨rfl, rfl⟩)
  go_ret
  exact ⟨rfl, Kp.refl _ _⟩

set_option maxRecDepth 100000 in
set_option maxHeartbeats 800000 in
theorem rknow_not {w : World} {x t l N : Nat} {R T : Nat → Nat} {L : Nat → Nat → Nat} (h : Rk w x t l N R T L) (n : Int) (hn : n < 0 ∨ (N : Int) ≤ n) :
    Calls Try.prog 35 #[.pointer (some ⟨x, 0, none⟩), .int .i64 n] w fun e w' => e = .returned (.int .i64 0) ∧ Kp (fun _ => False) w w' := by
  have H2 : Hid (Calls _ _ _ w _) := there_not h n hn
  clear h hn
  go_enter Try.func35, Try.ntmps35
  go_wp2_with (go_at_call 53; refine H2.out.mono ?_; rintro e w' ⟨rfl, rfl⟩)
  go_ret
  exact ⟨rfl, Kp.refl _ _⟩

set_option maxRecDepth 100000 in
set_option maxHeartbeats 800000 in
theorem rkmay_not {w : World} {x t l N : Nat} {R T : Nat → Nat} {L : Nat → Nat → Nat} (h : Rk w x t l N R T L) (n : Int) (hn : n < 0 ∨ (N : Int) ≤ n) :
    Calls Try.prog 31 #[.pointer (some ⟨x, 0, none⟩), .int .i64 n] w fun e w' => e = .returned (.bool false) ∧ Kp (fun _ => False) w w' := by
  have H2 : Hid (Calls _ _ _ w _) := there_not h n hn
  clear h hn
  go_enter Try.func31, Try.ntmps31
  go_wp2_with (go_at_call 53; refine H2.out.mono ?_; rintro e w' ⟨rfl, rfl⟩)
  go_ret
  exact ⟨rfl, Kp.refl _ _⟩

set_option maxRecDepth 100000 in
set_option maxHeartbeats 1600000 in
theorem rkmay_ok {w : World} {x t l N : Nat} {R T : Nat → Nat} {L : Nat → Nat → Nat} (h : Rk w x t l N R T L) (n : Nat) (hn : (n : Int) < (N : Int)) (hself : L n n = 0) :
    Calls Try.prog 31 #[.pointer (some ⟨x, 0, none⟩), .int .i64 (n : Int)] w fun e w' => e = .returned (.bool (decide (∀ o, o < N → L n o < 2))) ∧ Kp (fun _ => False) w w' := by
  have H2 : Hid (Calls _ _ _ w _) := there_ok h n hn
  have HR : Hid (Rk w x t l N R T L) := h
  have c0 := h.c0
  obtain ⟨cap, hcap, c1⟩ := h.c1
  obtain ⟨r, hr⟩ : ∃ r, r = decide (∀ o, o < N → L n o < 2) := ⟨_, rfl⟩
  rw [← hr]
  have HRR : Hid (r = decide (∀ o, o < N → L n o < 2)) := hr
  have HSf : Hid (L n n = 0) := hself
  have hN16 : (N : Int) ≤ 16 := by have := h.n2; omega
  clear h hr hself
  go_enter Try.func31, Try.ntmps31
  go_wp2_with (go_at_call 53; refine H2.out.mono ?_; rintro e w' ⟨rfl, hw⟩; obtain rfl := hw.symm; clear hw)
  go_loopg [15] N (fun gk i wr => ∃ k : Nat, k ≤ N ∧ gk = N - k ∧ i = .int .i64 k ∧ wr = w ∧ Hid (∀ o, o < k → L n o < 2))
  case atStart => exact ⟨0, Nat.zero_le _, rfl, rfl, rfl, fun o ho => by omega⟩
  case round =>
    obtain ⟨k, hk, rfl, rfl, rfl, hA⟩ := hrel
    by_cases hlt : (k : Int) < (N : Int)
    · by_cases hkn : k = n
      · have dkn : ((k : Int) == (n : Int)) = true := by simp; omega
        have dkn2 : (k : Int) = (n : Int) := by omega
        have HK : Hid (k = n) := hkn
        subst hkn
        go_wp2
        go_roundg (N - (k + 1))
        case rel => exact ⟨k + 1, by omega, rfl, by go_num, rfl, fun o ho => by
          by_cases e : o = k
          · subst e; rw [HSf.out]; omega
          · exact hA.out o (by omega)⟩
        case measure => omega
      · have dkn : ((k : Int) == (n : Int)) = false := by simp; omega
        have dkn2 : ¬ (k : Int) = (n : Int) := by omega
        have ca := HR.out.out k (by omega)
        have cb := (HR.out.inn k (by omega)).cell (i := n) (by omega)
        by_cases h2 : L n k < 2
        · have d2 : decide ((2 : Int) ≤ ((L n k : Nat) : Int)) = false := by simp; omega
          go_wp2
          go_roundg (N - (k + 1))
          case rel => exact ⟨k + 1, by omega, rfl, by go_num, rfl, fun o ho => by
            by_cases e : o = k
            · subst e; exact h2
            · exact hA.out o (by omega)⟩
          case measure => omega
        · have d2 : decide ((2 : Int) ≤ ((L n k : Nat) : Int)) = true := by simp; omega
          go_wp2
          go_ret
          refine ⟨?_, Kp.refl _ _⟩
          rw [HRR.out, decide_eq_false (fun hh => h2 (hh k (by omega)))]; rfl
    · go_wp2
      go_ret
      refine ⟨?_, Kp.refl _ _⟩
      rw [HRR.out, decide_eq_true (fun o ho => hA.out o (by omega))]; rfl

end Go.Proofs.Ytdhlmplpdmcjoaa
