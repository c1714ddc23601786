/- Ticks of whatever clock of the reference's, behind whatever ticks. -/
import Derived.Test.YtdhlmplpdmcjoaaRt
import Derived.Test.YtdhlmplpdmcjoaaDn
namespace Go.Proofs.Ytdhlmplpdmcjoaa
open Go.RowKit Go.Deep Go.Maps

set_option maxRecDepth 100000 in
set_option maxHeartbeats 800000 in
theorem rktick_no {w : World} {x t l N : Nat} {R T : Nat → Nat} {L : Nat → Nat → Nat} (h : Rk w x t l N R T L) (n : Nat) (hn : (n : Int) < (N : Int)) (hself : L n n = 0) (hm : ¬ ∀ o, o < N → L n o < 2) :
    Calls Try.prog 33 #[.pointer (some ⟨x, 0, none⟩), .int .i64 (n : Int)] w fun e w' => e = .returned (.int .i64 100) ∧ Kp (fun _ => False) w w' := by
  have H1 : Hid (Calls _ _ _ w _) := there_ok h n hn
  have H0 := rkmay_ok h n hn hself
  rw [decide_eq_false hm] at H0
  have H2 : Hid (Calls _ _ _ w _) := H0
  clear h hm hself H0
  go_enter Try.func33, Try.ntmps33
  go_wp2_with (first
    | (go_at_call 53; refine H1.out.mono ?_; rintro e w' ⟨rfl, hw⟩; obtain rfl := hw.symm; clear hw)
    | (go_at_call 31; refine H2.out.mono ?_; rintro e w1 ⟨rfl, k1⟩))
  go_ret
  exact ⟨rfl, k1⟩

set_option maxRecDepth 100000 in
set_option maxHeartbeats 800000 in
theorem rktick_not {w : World} {x t l N : Nat} {R T : Nat → Nat} {L : Nat → Nat → Nat} (h : Rk w x t l N R T L) (n : Int) (hn : n < 0 ∨ (N : Int) ≤ n) :
    Calls Try.prog 33 #[.pointer (some ⟨x, 0, none⟩), .int .i64 n] w fun e w' => e = .returned (.int .i64 1) ∧ Kp (fun _ => False) w w' := by
  have H1 : Hid (Calls _ _ _ w _) := there_not h n hn
  clear h hn
  go_enter Try.func33, Try.ntmps33
  go_wp2_with (go_at_call 53; refine H1.out.mono ?_; rintro e w' ⟨rfl, rfl⟩)
  go_ret
  exact ⟨rfl, Kp.refl _ _⟩

/-- the reference's clocks behind the ticks h -/
def Rs (w : World) (x t l N : Nat) (R : Nat → Nat) (h : List Nat) : Prop := Rk w x t l N R (fun j => h.count j) (lead h) ∧ adm N h
theorem Rs.keep {S : Nat → Prop} {w w' : World} {x t l N : Nat} {R : Nat → Nat} {h : List Nat} (H : Rs w x t l N R h) (k : Kp S w w') (hx : ¬ S x) (ht : ¬ S t) (hl : ¬ S l) (hr : ∀ a, a < N → ¬ S (R a)) : Rs w' x t l N R h := ⟨H.1.keep k hx ht hl hr, H.2⟩
theorem rktick_rs {w : World} {x t l N : Nat} {R : Nat → Nat} {h : List Nat} (H : Rs w x t l N R h) (y : Int) (hl : (h.length : Int) ≤ 4611686018427387904) :
    Calls Try.prog 33 #[.pointer (some ⟨x, 0, none⟩), .int .i64 y] w fun e w' => e = .returned (.int .i64 (tickE N h y)) ∧ Kp (fun z => z = t ∨ ∃ a, a < N ∧ z = R a) w w' ∧ Rs w' x t l N R (tickH N h y) := by
  unfold tickE tickH
  by_cases hx : y < 0 ∨ (N : Int) ≤ y
  · rw [if_pos hx, if_pos hx]
    exact (rktick_not H.1 y hx).mono fun e w' ⟨he, k⟩ => ⟨he, k.mono (fun _ _ e => e.elim), H.keep k id id id (fun _ _ => id)⟩
  · rw [if_neg hx, if_neg hx]
    obtain ⟨n, rfl⟩ : ∃ n : Nat, y = (n : Int) := ⟨y.toNat, by omega⟩
    rw [Int.toNat_natCast]
    have hn : n < N := by omega
    by_cases hm : may N h n
    · rw [if_pos hm, if_pos hm]
      refine (rktick_ok0 H.1 n (by omega) (lead_self h n) hm (fun o ho => lead_le H.2 o n ho hn) (by have := List.count_le_length (a := n) (l := h); omega)).mono fun e w' ⟨he, k, hC⟩ => ⟨he, k, hC.congr (fun j _ => ?_) (fun a b ha hb => tickTo_lead h n N a b ha hb), hn, hm, H.2⟩
      unfold tickT
      rw [List.count_cons]
      by_cases e : j = n
      · subst e; simp
      · have : (n == j) = false := by simp; omega
        simp [e, this]
    · rw [if_neg hm, if_neg hm]
      exact (rktick_no H.1 n (by omega) (lead_self h n) hm).mono fun e w' ⟨he, k⟩ => ⟨he, k.mono (fun _ _ e => e.elim), H.keep k id id id (fun _ _ => id)⟩
theorem rkmay_rs {w : World} {x t l N : Nat} {R : Nat → Nat} {h : List Nat} (H : Rs w x t l N R h) (y : Int) :
    Calls Try.prog 31 #[.pointer (some ⟨x, 0, none⟩), .int .i64 y] w fun e w' => e = .returned (.bool (mayX N h y)) ∧ Kp (fun _ => False) w w' := by
  unfold mayX tickE
  by_cases hx : y < 0 ∨ (N : Int) ≤ y
  · rw [if_pos hx]
    exact rkmay_not H.1 y hx
  · rw [if_neg hx]
    obtain ⟨n, rfl⟩ : ∃ n : Nat, y = (n : Int) := ⟨y.toNat, by omega⟩
    rw [Int.toNat_natCast]
    have := rkmay_ok H.1 n (by omega) (lead_self h n)
    have e : decide ((if may N h n then (0 : Int) else 100) = 0) = decide (∀ o, o < N → lead h n o < 2) := by
      by_cases hm : may N h n
      · rw [if_pos hm]; simp; exact hm
      · rw [if_neg hm]; simp; simpa [may] using hm
    rw [e]
    exact this
theorem rknow_rs {w : World} {x t l N : Nat} {R : Nat → Nat} {h : List Nat} (H : Rs w x t l N R h) (y : Int) :
    Calls Try.prog 35 #[.pointer (some ⟨x, 0, none⟩), .int .i64 y] w fun e w' => e = .returned (.int .i64 (nowX N h y)) ∧ Kp (fun _ => False) w w' := by
  unfold nowX
  by_cases hx : y < 0 ∨ (N : Int) ≤ y
  · rw [if_pos hx]
    exact rknow_not H.1 y hx
  · rw [if_neg hx]
    obtain ⟨n, rfl⟩ : ∃ n : Nat, y = (n : Int) := ⟨y.toNat, by omega⟩
    rw [Int.toNat_natCast]
    exact rknow_ok H.1 n (by omega)
end Go.Proofs.Ytdhlmplpdmcjoaa
