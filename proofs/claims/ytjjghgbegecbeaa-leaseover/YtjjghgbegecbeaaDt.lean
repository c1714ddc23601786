/- Whether a clock may tick, and what it tells. -/
import Derived.Test.YtjjghgbegecbeaaDc
namespace Go.Proofs.Ytjjghgbegecbeaa
open Go.RowKit Go.Deep Go.Maps

set_option maxRecDepth 100000 in
set_option maxHeartbeats 800000 in
theorem why_ok {w : World} {b t m N : Nat} {T : Nat → Nat} {L : Nat → Nat → Nat} (h : Ck w b t m N T L) (n : Nat) (hn : (n : Int) < (N : Int)) :
    Calls Try.prog 41 #[.pointer (some ⟨b, 0, none⟩), .int .i64 (n : Int)] w fun e w' => e = .returned (.int .i64 (if ∀ o, o < N → L n o < 2 then 0 else 100)) ∧ Kp (fun _ => False) w w' := by
  have H : Hid (Calls _ _ _ w _) := ckmade_ok h
  have H2 : Hid (Calls _ _ _ w _) := ckhas_ok h n hn
  have HC : Hid (Ck w b t m N T L) := h
  have c0 := h.c0
  have c1 := h.c1
  have hN16 : (N : Int) ≤ 16 := by have := h.n2; omega
  obtain ⟨r, hr⟩ : ∃ r : Int, r = (if ∀ o, o < N → L n o < 2 then 0 else 100) := ⟨_, rfl⟩
  rw [← hr]
  have HR : Hid (r = (if ∀ o, o < N → L n o < 2 then 0 else 100)) := hr
  clear h hr
  go_enter Try.func41, Try.ntmps41
  go_wp2_with (first
    | (go_at_call 52; refine H.out.mono ?_; rintro e w' ⟨rfl, hw⟩; obtain rfl := hw.symm; clear hw)
    | (go_at_call 40; refine H2.out.mono ?_; rintro e w' ⟨rfl, hw⟩; obtain rfl := hw.symm; clear hw))
  go_loopg [18] N (fun gk i wr => ∃ k : Nat, k ≤ N ∧ gk = N - k ∧ i = .int .i64 k ∧ wr = w ∧ Hid (∀ o, o < k → L n o < 2))
  case atStart => exact ⟨0, Nat.zero_le _, rfl, rfl, rfl, fun o ho => by omega⟩
  case round =>
    obtain ⟨k, hk, rfl, rfl, rfl, hA⟩ := hrel
    by_cases hlt : (k : Int) < (N : Int)
    · by_cases h2 : L n k < 2
      · have d2 : decide ((2 : Int) ≤ ((L n k : Nat) : Int)) = false := by simp; omega
        go_wp2_with (at_lookup; go_must (refine wpList_lookup_lead rfl _ _ rfl m N L HC.out.mp HC.out.n2 rfl n k (by omega) (by omega) rfl ?_))
        go_roundg (N - (k + 1))
        case rel => exact ⟨k + 1, by omega, rfl, by go_num, rfl, fun o ho => by
          by_cases e : o = k
          · subst e; exact h2
          · exact hA.out o (by omega)⟩
        case measure => omega
      · have d2 : decide ((2 : Int) ≤ ((L n k : Nat) : Int)) = true := by simp; omega
        go_wp2_with (at_lookup; go_must (refine wpList_lookup_lead rfl _ _ rfl m N L HC.out.mp HC.out.n2 rfl n k (by omega) (by omega) rfl ?_))
        go_ret
        refine ⟨?_, Kp.refl _ _⟩
        rw [HR.out, if_neg (fun hh => h2 (hh k (by omega)))]; rfl
    · go_wp2
      go_ret
      refine ⟨?_, Kp.refl _ _⟩
      rw [HR.out, if_pos (fun o ho => hA.out o (by omega))]; rfl


set_option maxRecDepth 100000 in
set_option maxHeartbeats 800000 in
theorem why_not {w : World} {b t m N : Nat} {T : Nat → Nat} {L : Nat → Nat → Nat} (h : Ck w b t m N T L) (n : Int) (hn : n < 0 ∨ (N : Int) ≤ n) :
    Calls Try.prog 41 #[.pointer (some ⟨b, 0, none⟩), .int .i64 n] w fun e w' => e = .returned (.int .i64 1) ∧ Kp (fun _ => False) w w' := by
  have H : Hid (Calls _ _ _ w _) := ckmade_ok h
  have H2 : Hid (Calls _ _ _ w _) := ckhas_not h n hn
  clear h hn
  go_enter Try.func41, Try.ntmps41
  go_wp2_with (first
    | (go_at_call 52; refine H.out.mono ?_; rintro e w' ⟨rfl, rfl⟩)
    | (go_at_call 40; refine H2.out.mono ?_; rintro e w' ⟨rfl, rfl⟩))
  go_ret
  exact ⟨rfl, Kp.refl _ _⟩

set_option maxRecDepth 100000 in
set_option maxHeartbeats 800000 in
theorem cknow_ok {w : World} {b t m N : Nat} {T : Nat → Nat} {L : Nat → Nat → Nat} (h : Ck w b t m N T L) (n : Nat) (hn : (n : Int) < (N : Int)) :
    Calls Try.prog 25 #[.pointer (some ⟨b, 0, none⟩), .int .i64 (n : Int)] w fun e w' => e = .returned (.int .i64 ((T n : Nat) : Int)) ∧ Kp (fun _ => False) w w' := by
  have H2 : Hid (Calls _ _ _ w _) := ckhas_ok h n hn
  have c0 := h.c0
  have cn := h.row.cell (i := n) (by omega)
  clear h
  go_enter Try.func25, Try.ntmps25
  go_wp2_with (go_at_call 40; refine H2.out.mono ?_; rintro e w' ⟨rfl, rfl⟩)
  go_ret
  exact ⟨rfl, Kp.refl _ _⟩

set_option maxRecDepth 100000 in
set_option maxHeartbeats 800000 in
theorem cknow_not {w : World} {b t m N : Nat} {T : Nat → Nat} {L : Nat → Nat → Nat} (h : Ck w b t m N T L) (n : Int) (hn : n < 0 ∨ (N : Int) ≤ n) :
    Calls Try.prog 25 #[.pointer (some ⟨b, 0, none⟩), .int .i64 n] w fun e w' => e = .returned (.int .i64 0) ∧ Kp (fun _ => False) w w' := by
  have H2 : Hid (Calls _ _ _ w _) := ckhas_not h n hn
  clear h hn
  go_enter Try.func25, Try.ntmps25
  go_wp2_with (go_at_call 40; refine H2.out.mono ?_; rintro e w' ⟨rfl, rfl⟩)
  go_ret
  exact ⟨rfl, Kp.refl _ _⟩

end Go.Proofs.Ytjjghgbegecbeaa
