/- bits.Len64; numbers up to a bound (laid by scripts/mknd.py). -/
import Derived.Test.YtippipeebkkghaaGreatDoorNc
import Derived.Test.YtippipeebkkghaaGreatDoorQg
namespace Go.Proofs.YtippipeebkkghaaGreatDoor
set_option linter.unusedVariables false
set_option linter.unusedSimpArgs false
open Go.RowKit Go.Deep

/-- how many bits -/
def blen (n : Nat) : Nat := if n = 0 then 0 else Nat.log2 n + 1
theorem blen_half {n : Nat} (h : n ≠ 0) : blen n = blen (n / 2) + 1 := by
  unfold blen
  rw [if_neg h]
  by_cases h1 : n / 2 = 0
  · have : n = 1 := by omega
    subst this
    rfl
  · rw [if_neg h1]
    have h2 : 2 ≤ n := by omega
    rw [Nat.log2_def n, if_pos h2]
theorem blen_shift : ∀ (k n : Nat), 2 ^ k ≤ n → blen n = blen (n / 2 ^ k) + k
  | 0, n, _ => by simp
  | k + 1, n, h => by
    have hp : 0 < 2 ^ (k + 1) := Nat.pow_pos (by decide)
    rw [blen_half (by omega), blen_shift k (n / 2) (by rw [Nat.le_div_iff_mul_le (by decide), ← Nat.pow_succ]; exact h), Nat.div_div_eq_div_mul, ← Nat.pow_succ', Nat.add_assoc]
theorem blen_numW (n : Nat) : (blen n + 7) / 8 = numW n := by
  induction n using Nat.strongRecOn with
  | _ n ih =>
    by_cases h0 : n = 0
    · subst h0; rw [numW_zero]; rfl
    · rw [numW_pos h0]
      by_cases h : 2 ^ 8 ≤ n
      · rw [blen_shift 8 n h, ← ih (n / 256) (by omega)]
        show _ = (blen (n / 2 ^ 8) + 7) / 8 + 1
        omega
      · have h1 : n / 256 = 0 := by omega
        rw [h1, numW_zero]
        have hb : blen n = Nat.log2 n + 1 := by unfold blen; rw [if_neg h0]
        have : Nat.log2 n < 8 := (Nat.log2_lt h0).2 (by omega)
        omega
abbrev tab8 : ByteArray := ⟨#[0, 1, 2, 2, 3, 3, 3, 3, 4, 4, 4, 4, 4, 4, 4, 4, 5, 5, 5, 5, 5, 5, 5, 5, 5, 5, 5, 5, 5, 5, 5, 5, 6, 6, 6, 6, 6, 6, 6, 6, 6, 6, 6, 6, 6, 6, 6, 6, 6, 6, 6, 6, 6, 6, 6, 6, 6, 6, 6, 6, 6, 6, 6, 6, 7, 7, 7, 7, 7, 7, 7, 7, 7, 7, 7, 7, 7, 7, 7, 7, 7, 7, 7, 7, 7, 7, 7, 7, 7, 7, 7, 7, 7, 7, 7, 7, 7, 7, 7, 7, 7, 7, 7, 7, 7, 7, 7, 7, 7, 7, 7, 7, 7, 7, 7, 7, 7, 7, 7, 7, 7, 7, 7, 7, 7, 7, 7, 7, 8, 8, 8, 8, 8, 8, 8, 8, 8, 8, 8, 8, 8, 8, 8, 8, 8, 8, 8, 8, 8, 8, 8, 8, 8, 8, 8, 8, 8, 8, 8, 8, 8, 8, 8, 8, 8, 8, 8, 8, 8, 8, 8, 8, 8, 8, 8, 8, 8, 8, 8, 8, 8, 8, 8, 8, 8, 8, 8, 8, 8, 8, 8, 8, 8, 8, 8, 8, 8, 8, 8, 8, 8, 8, 8, 8, 8, 8, 8, 8, 8, 8, 8, 8, 8, 8, 8, 8, 8, 8, 8, 8, 8, 8, 8, 8, 8, 8, 8, 8, 8, 8, 8, 8, 8, 8, 8, 8, 8, 8, 8, 8, 8, 8, 8, 8, 8, 8, 8, 8, 8, 8, 8, 8, 8, 8, 8, 8]⟩
set_option maxRecDepth 100000 in
theorem tab8_at : ∀ x : Fin 256, tab8.data[x.val]? = some (UInt8.ofNat (blen x.val)) := by decide

set_option maxRecDepth 100000 in
theorem tab8_run (x : Nat) (hx : x < 256) (w : World) : (Instr.index 9 (.string tab8) (.int .u8 (x : Int))).run Tryz.prog w = .ok (.int .u8 (blen x : Int)) w := by
  have h := tab8_at ⟨x, hx⟩
  have hb : blen x < 256 := by
    unfold blen
    split
    · decide
    · have : Nat.log2 x < 8 := (Nat.log2_lt (by assumption)).2 (by omega)
      omega
  have h2 : (tab8 : ByteArray)[x]? = some (UInt8.ofNat (blen x)) := by
    have hs : x < tab8.size := hx
    rw [getElem?_pos tab8 x hs]
    have h3 : tab8.data[x]? = some (tab8.data[x]'hs) := Array.getElem?_eq_getElem hs
    rw [h3] at h
    injection h with h
    exact congrArg some h
  have h4 : (UInt8.ofNat (blen x)).toNat = blen x := by rw [UInt8.toNat_ofNat']; omega
  have hu := run_underlying (P := Tryz.prog) Tryz.underlying9 (w := w)
  have h5 : (0 : Int) ≤ (x : Int) := by omega
  generalize tab8 = tb at h2 ⊢
  simp [Instr.index, asIntOf, hu, h2, h4, h5, go_sem]
end Go.Proofs.YtippipeebkkghaaGreatDoor
