/- What a crash leaves of each sector. -/
import Derived.Test.YtippipeebkkghaaGreatDoorPl6
import Derived.Test.YtippipeebkkghaaGreatDoorPc
namespace Go.Proofs.YtippipeebkkghaaGreatDoor
open Go.RowKit Go.Deep Go.Maps

theorem ext_getD {xs ys : List Nat} (hl : xs.length = ys.length) (h : ∀ k, k < xs.length → xs.getD k 0 = ys.getD k 0) : xs = ys := by
  apply List.ext_getElem?
  intro k
  by_cases hk : k < xs.length
  · have := h k hk
    rw [List.getD_eq_getElem?_getD, List.getD_eq_getElem?_getD, List.getElem?_eq_getElem hk, List.getElem?_eq_getElem (by omega)] at this
    rw [List.getElem?_eq_getElem hk, List.getElem?_eq_getElem (by omega)]
    exact congrArg some this
  · rw [List.getElem?_eq_none (by omega), List.getElem?_eq_none (by omega)]
theorem secOf_len {dur : List Nat} {n j : Nat} (hl : dur.length = n * 64) (hj : j < n) : (secOf dur j).length = 64 := by
  unfold secOf
  rw [List.length_take, List.length_drop, hl]; omega
theorem secOf_get (dur : List Nat) (j : Nat) {k : Nat} (hk : k < 64) : (secOf dur j).getD k 0 = dur.getD (j * 64 + k) 0 := by
  unfold secOf
  rw [List.getD_eq_getElem?_getD, List.getD_eq_getElem?_getD, List.getElem?_take_of_lt hk, List.getElem?_drop]
/-- a sector of which the first c bytes are others -/
def mixS (T : Nat → Option (List Nat)) (j c : Nat) (s : List Nat) : List Nat := match T j with
  | some xs => xs.take c ++ s.drop c
  | none => s
theorem settleD_len (dur : List Nat) (T : Nat → Option (List Nat)) (i : Int) (c : Nat) : (settleD dur T i c).length = dur.length := by
  unfold settleD
  split
  · exact setSec_len _ _ _ _
  · rfl
theorem secOf_settle {dur : List Nat} {T : Nat → Option (List Nat)} {n j c : Nat} {i : Int} (hl : dur.length = n * 64) (hj : j < n) (hT : ∀ i xs, T i = some xs → xs.length = 64) (hc : c ≤ 64) :
    secOf (settleD dur T i c) j = if (j : Int) = i then mixS T j c (secOf dur j) else secOf dur j := by
  unfold settleD
  cases h : Tz T i with
  | none =>
    by_cases e : (j : Int) = i
    · subst e
      rw [Tz_nat] at h
      rw [if_pos rfl]
      unfold mixS
      rw [h]
    · rw [if_neg e]
  | some xs =>
    have hi : 0 ≤ i := by
      unfold Tz at h
      split at h
      · assumption
      · cases h
    obtain ⟨k, rfl⟩ := Int.eq_ofNat_of_zero_le hi
    rw [Tz_nat] at h
    have hx := hT k xs h
    dsimp only
    rw [Int.toNat_natCast]
    by_cases e : j = k
    · subst e
      rw [if_pos rfl]
      unfold mixS
      rw [h]
      have hs := secOf_len hl hj
      refine ext_getD ?_ (fun k hk => ?_)
      · rw [secOf_len (by rw [setSec_len]; exact hl) hj, List.length_append, List.length_take, List.length_drop, hs]; omega
      · have hk64 : k < 64 := by rw [secOf_len (by rw [setSec_len]; exact hl) hj] at hk; exact hk
        rw [secOf_get _ _ hk64, setSec_get (by rw [hl]; omega)]
        by_cases hkc : k < c
        · rw [if_pos (by omega), show j * 64 + k - j * 64 = k from by omega, List.getD_eq_getElem?_getD, List.getD_eq_getElem?_getD, List.getElem?_append_left (by rw [List.length_take]; omega), List.getElem?_take_of_lt hkc]
        · rw [if_neg (by omega), List.getD_eq_getElem?_getD (l := xs.take c ++ _), List.getElem?_append_right (by rw [List.length_take]; omega), List.length_take, List.getElem?_drop, show c + (k - min c xs.length) = k from by omega, ← List.getD_eq_getElem?_getD, secOf_get _ _ hk64]
    · rw [if_neg (by omega)]
      refine ext_getD ?_ (fun x hx' => ?_)
      · rw [secOf_len (by rw [setSec_len]; exact hl) hj, secOf_len hl hj]
      · have hx64 : x < 64 := by rw [secOf_len (by rw [setSec_len]; exact hl) hj] at hx'; exact hx'
        rw [secOf_get _ _ hx64, secOf_get _ _ hx64, setSec_get (by rw [hl]; omega), if_neg (by omega)]
theorem mixS_now {dur : List Nat} {T : Nat → Option (List Nat)} {j : Nat} (hT : ∀ i xs, T i = some xs → xs.length = 64) (hs : (secOf dur j).length = 64) : mixS T j 64 (secOf dur j) = nowOf dur T j := by
  unfold mixS nowOf
  cases h : T j with
  | none => rfl
  | some xs =>
    have := hT j xs h
    show xs.take 64 ++ (secOf dur j).drop 64 = xs
    rw [List.take_of_length_le (by omega), List.drop_of_length_le (by omega), List.append_nil]
theorem settleL_len (T : Nat → Option (List Nat)) (zs : List Int) : ∀ dur, (settleL dur T zs).length = dur.length := by
  induction zs with
  | nil => exact fun _ => rfl
  | cons z zs ih => exact fun dur => (ih _).trans (settleD_len _ _ _ _)
theorem secOf_settleL {T : Nat → Option (List Nat)} {n j : Nat} (hj : j < n) (hT : ∀ i xs, T i = some xs → xs.length = 64) (zs : List Int) : ∀ dur : List Nat, dur.length = n * 64 →
    secOf (settleL dur T zs) j = if (j : Int) ∈ zs then nowOf dur T j else secOf dur j := by
  induction zs with
  | nil => exact fun _ _ => by simp [settleL]
  | cons z zs ih =>
    intro dur hl
    have h1 := ih (settleD dur T z 64) ((settleD_len _ _ _ _).trans hl)
    rw [show settleL dur T (z :: zs) = settleL (settleD dur T z 64) T zs from rfl, h1]
    have hs := secOf_settle (c := 64) (i := z) hl hj hT (Nat.le_refl _)
    have hs' : secOf (settleD dur T z 64) j = if (j : Int) = z then nowOf dur T j else secOf dur j := by rw [hs, mixS_now hT (secOf_len hl hj)]
    have hnow : nowOf (settleD dur T z 64) T j = nowOf dur T j := by
      cases h : T j with
      | some xs => unfold nowOf; rw [h]; rfl
      | none =>
        have : nowOf dur T j = secOf dur j := by unfold nowOf; rw [h]; rfl
        rw [show nowOf (settleD dur T z 64) T j = secOf (settleD dur T z 64) j from by unfold nowOf; rw [h]; rfl, hs', this]
        split <;> rfl
    rw [hnow, hs']
    by_cases e1 : (j : Int) = z
    · rw [if_pos e1, if_pos (List.mem_cons.2 (Or.inl e1))]
      split <;> rfl
    · rw [if_neg e1]
      by_cases e2 : (j : Int) ∈ zs
      · rw [if_pos e2, if_pos (List.mem_cons_of_mem _ e2)]
      · rw [if_neg e2, if_neg (fun h => (List.mem_cons.1 h).elim e1 e2)]
theorem torn64_le (n : Int) : torn64 n ≤ 64 := by unfold torn64; omega
theorem secOf_crash {dur : List Nat} {T : Nat → Option (List Nat)} {n j : Nat} {zs : List Int} {i x : Int} (hl : dur.length = n * 64) (hj : j < n) (hT : ∀ i xs, T i = some xs → xs.length = 64) :
    secOf (crashD dur T zs i x) j = if (j : Int) = i ∧ ¬ (j : Int) ∈ zs then mixS T j (torn64 x) (secOf dur j) else if (j : Int) ∈ zs then nowOf dur T j else secOf dur j := by
  unfold crashD
  rw [secOf_settle ((settleL_len _ _ _).trans hl) hj hT (torn64_le x), secOf_settleL hj hT zs dur hl]
  by_cases e1 : (j : Int) = i
  · by_cases e2 : (j : Int) ∈ zs
    · rw [if_pos e1, if_pos e2, if_neg (fun h => h.2 e2)]
      cases h : T j with
      | none => unfold mixS; rw [h]
      | some xs =>
        have hx := hT j xs h
        have hn : nowOf dur T j = xs := by unfold nowOf; rw [h]; rfl
        unfold mixS
        rw [h, hn]
        exact List.take_append_drop _ _
    · rw [if_pos e1, if_neg e2, if_pos ⟨e1, e2⟩]
  · rw [if_neg e1, if_neg (show ¬ ((j : Int) = i ∧ ¬ (j : Int) ∈ zs) from fun h => e1 h.1)]
theorem Pt.tlen {w : World} {b d m n q : Nat} {dur : List Nat} {T : Nat → Option (List Nat)} (h : Pt w b d m n q dur T) : ∀ i xs, T i = some xs → xs.length = 64 := fun i xs hx => by
  obtain ⟨D, _, h1, _, h3⟩ := h.mp
  rcases Nat.lt_or_ge i n with hi | hi
  · exact ((h1 i hi).2 xs hx).1.1
  · rw [h3 i hi] at hx; cases hx
theorem and01 (x : Int) : bits .and .u64 x 1 = 0 ∨ bits .and .u64 x 1 = 1 := by
  have h1 : (BitVec.ofInt 64 x &&& BitVec.ofInt 64 1).toNat = (BitVec.ofInt 64 x).toNat % 2 := by
    rw [BitVec.toNat_and, show (BitVec.ofInt 64 1).toNat = 1 from rfl, Nat.and_one_is_mod]
  have h2 : bits .and .u64 x 1 = IntKind.u64.wrap (((BitVec.ofInt 64 x).toNat % 2 : Nat) : Int) := by
    show IntKind.u64.wrap ((BitVec.ofInt 64 x &&& BitVec.ofInt 64 1).toNat : Int) = _
    rw [h1]
  rw [h2]
  rcases Nat.mod_two_eq_zero_or_one (BitVec.ofInt 64 x).toNat with e | e <;> rw [e]
  · exact Or.inl rfl
  · exact Or.inr rfl
end Go.Proofs.YtippipeebkkghaaGreatDoor
