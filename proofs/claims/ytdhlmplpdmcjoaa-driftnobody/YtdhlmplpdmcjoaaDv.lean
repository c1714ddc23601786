/- Clocks that tick in turn, plain. -/
import Derived.Test.YtdhlmplpdmcjoaaDm
namespace Go.Proofs.Ytdhlmplpdmcjoaa
set_option linter.unusedVariables false
/-- the ticks in turn from clock F on, the latest first -/
def turns (F N : Nat) : Nat → List Nat
  | 0 => []
  | k + 1 => ((F + k) % N) :: turns F N k
theorem turns_len (F N : Nat) : ∀ k, (turns F N k).length = k
  | 0 => rfl
  | k + 1 => by simp [turns, turns_len F N k]
/-- how far behind F it comes -/
def off (F N y : Nat) : Nat := if F ≤ y then y - F else y + N - F
/-- how long ago it ticked, with clock s (from F on) next -/
def rank (F N s y : Nat) : Nat := if off F N y < s then off F N y + N - s else off F N y - s
structure InTurn (F N q s : Nat) (h : List Nat) : Prop where
  a : adm N h
  l : ∀ a b, a < N → b < N → lead h a b ≤ if rank F N s b < rank F N s a then 1 else 0
  c : ∀ y, y < N → h.count y = if off F N y < s then q + 1 else q
theorem off_lt {F N y : Nat} (hF : F < N) (hy : y < N) : off F N y < N := by unfold off; split <;> omega
theorem off_inj {F N y z : Nat} (hF : F < N) (hy : y < N) (hz : z < N) (h : off F N y = off F N z) : y = z := by
  unfold off at h; split at h <;> split at h <;> omega
theorem next_off {F N q s : Nat} (hF : F < N) (hs : s < N) : (F + (q * N + s)) % N < N ∧ off F N ((F + (q * N + s)) % N) = s := by
  have e : (F + (q * N + s)) % N = (F + s) % N := by
    rw [show F + (q * N + s) = (F + s) + q * N by omega, Nat.add_mul_mod_self_right]
  rw [e]
  by_cases h : F + s < N
  · rw [Nat.mod_eq_of_lt h]; unfold off; rw [if_pos (by omega)]; omega
  · rw [Nat.mod_eq_sub_mod (by omega), Nat.mod_eq_of_lt (by omega)]; unfold off; rw [if_neg (by omega)]; omega
theorem InTurn.may {F N q s : Nat} {h : List Nat} (H : InTurn F N q s h) (y : Nat) (hy : y < N) : may N h y := fun o ho => by
  have := H.l y o hy ho
  split at this <;> omega
theorem InTurn.next {F N q s x : Nat} {h : List Nat} (H : InTurn F N q s h) (hF : F < N) (hs : s < N) (hx : x < N) (ho : off F N x = s) :
    (s + 1 < N → InTurn F N q (s + 1) (x :: h)) ∧ (s + 1 = N → InTurn F N (q + 1) 0 (x :: h)) := by
  have hm : adm N (x :: h) := ⟨hx, H.may x hx, H.a⟩
  have r0 : rank F N s x = 0 := by unfold rank; rw [if_neg (by omega)]; omega
  have l0 : ∀ o, o < N → lead h x o = 0 := fun o ho' => by
    have := H.l x o hx ho'
    rw [r0, if_neg (by omega)] at this
    omega
  have lz : ∀ o, o < N → o ≠ x → lead (x :: h) o x = 0 := fun o ho' ne => by
    rw [lead_ticked h x o ne]
    have := lead_le H.a o x ho' hx
    omega
  have main : ∀ s', (∀ y, y < N → y ≠ x → rank F N s' y + 1 = rank F N s y) → rank F N s' x = N - 1 → (∀ y, y < N → y ≠ x → rank F N s' y < N - 1) →
      ∀ a b, a < N → b < N → lead (x :: h) a b ≤ if rank F N s' b < rank F N s' a then 1 else 0 := fun s' h1 h2 h3 a b ha hb => by
    by_cases ea : a = x
    · subst ea
      by_cases eb : b = a
      · subst eb; rw [lead_self]; omega
      · rw [lead_tick h a b eb, l0 b hb, if_pos (by rw [h2]; exact h3 b hb eb)]; omega
    · by_cases eb : b = x
      · subst eb; rw [lz a ha ea]; omega
      · rw [lead_other h x a b ea eb]
        have := H.l a b ha hb
        rw [← h1 a ha ea, ← h1 b hb eb] at this
        by_cases e : rank F N s' b < rank F N s' a
        · rw [if_pos e]; rw [if_pos (by omega)] at this; exact this
        · rw [if_neg e]; rw [if_neg (by omega)] at this; exact this
  have hne : ∀ y, y < N → y ≠ x → off F N y ≠ s := fun y hy ne e => ne (off_inj hF hy hx (e.trans ho.symm))
  constructor
  · intro hs1
    refine ⟨hm, main (s + 1) (fun y hy ne => ?_) ?_ (fun y hy ne => ?_), fun y hy => ?_⟩
    · have := hne y hy ne
      have := off_lt hF hy
      unfold rank
      by_cases e : off F N y < s
      · rw [if_pos e, if_pos (by omega)]; omega
      · rw [if_neg e, if_neg (by omega)]; omega
    · unfold rank; rw [ho, if_pos (by omega)]; omega
    · have := hne y hy ne
      have := off_lt hF hy
      unfold rank
      by_cases e : off F N y < s + 1
      · rw [if_pos e]; omega
      · rw [if_neg e]; omega
    · rw [List.count_cons, H.c y hy]
      by_cases e : y = x
      · subst e
        rw [ho, if_neg (c := s < s) (by omega), if_pos (c := s < s + 1) (by omega)]
        simp
      · have := hne y hy e
        have e2 : (x == y) = false := by simp; omega
        rw [e2]
        by_cases e3 : off F N y < s
        · rw [if_pos e3, if_pos (c := off F N y < s + 1) (by omega)]; simp
        · rw [if_neg e3, if_neg (c := off F N y < s + 1) (by omega)]; simp
  · intro hs1
    refine ⟨hm, main 0 (fun y hy ne => ?_) ?_ (fun y hy ne => ?_), fun y hy => ?_⟩
    · have := hne y hy ne
      have := off_lt hF hy
      unfold rank
      rw [if_neg (by omega), if_pos (by omega)]
      omega
    · unfold rank; rw [ho, if_neg (by omega)]; omega
    · have := hne y hy ne
      have := off_lt hF hy
      unfold rank
      rw [if_neg (by omega)]
      omega
    · rw [List.count_cons, H.c y hy, if_neg (c := off F N y < 0) (by omega)]
      by_cases e : y = x
      · subst e
        rw [ho, if_neg (c := s < s) (by omega)]
        simp
      · have := hne y hy e
        have := off_lt hF hy
        have e2 : (x == y) = false := by simp; omega
        rw [e2, if_pos (c := off F N y < s) (by omega)]
        simp
theorem turns_in {F N : Nat} (hF : F < N) : ∀ k, ∃ q s, k = q * N + s ∧ s < N ∧ InTurn F N q s (turns F N k)
  | 0 => ⟨0, 0, by omega, by omega, trivial, fun a b _ _ => by show lead [] a b ≤ _; simp [lead], fun y _ => by simp [turns]⟩
  | k + 1 => by
    obtain ⟨q, s, e, hs, H⟩ := turns_in hF k
    obtain ⟨hx, ho⟩ := next_off (q := q) hF hs
    rw [← e] at hx ho
    obtain ⟨n1, n2⟩ := H.next hF hs hx ho
    by_cases h1 : s + 1 < N
    · exact ⟨q, s + 1, by omega, h1, n1 h1⟩
    · exact ⟨q + 1, 0, by rw [Nat.add_mul]; omega, by omega, n2 (by omega)⟩
theorem turns_may {F N : Nat} (hF : F < N) (k y : Nat) (hy : y < N) : may N (turns F N k) y := by
  obtain ⟨q, s, e, hs, H⟩ := turns_in hF k
  exact H.may y hy
theorem turns_adm {F N : Nat} (hF : F < N) (k : Nat) : adm N (turns F N k) := by
  obtain ⟨q, s, e, hs, H⟩ := turns_in hF k
  exact H.a
theorem turns_count {F N : Nat} (hF : F < N) (R y : Nat) (hy : y < N) : (turns F N (N * R)).count y = R := by
  obtain ⟨q, s, e, hs, H⟩ := turns_in hF (N * R)
  have h1 : (N * R) % N = 0 := Nat.mul_mod_right N R
  rw [e, Nat.add_comm, Nat.add_mul_mod_self_right, Nat.mod_eq_of_lt hs] at h1
  subst h1
  rw [H.c y hy, if_neg (by omega)]
  have h2 : N * R = q * N := e
  rw [Nat.mul_comm q N] at h2
  exact (Nat.eq_of_mul_eq_mul_left (by omega) h2).symm
end Go.Proofs.Ytdhlmplpdmcjoaa
