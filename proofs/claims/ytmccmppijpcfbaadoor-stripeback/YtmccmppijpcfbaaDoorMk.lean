/- Shards of which some are missing. -/
import Derived.Test.YtmccmppijpcfbaaDoorR5
import Derived.Test.YtmccmppijpcfbaaDoorTx
namespace Go.Proofs.YtmccmppijpcfbaaDoor
open Go.RowKit Go.Deep

/-- how many of the first n are kept -/
def cnt (q : Nat → Bool) (n : Nat) : Nat := ((List.range n).filter q).length
theorem cnt_zero (q : Nat → Bool) : cnt q 0 = 0 := rfl
theorem cnt_succ (q : Nat → Bool) (n : Nat) : cnt q (n + 1) = cnt q n + if q n = true then 1 else 0 := by
  unfold cnt
  rw [List.range_succ, List.filter_append, List.length_append]
  by_cases h : q n = true <;> simp [h]
theorem cnt_congr {q q' : Nat → Bool} : ∀ {n : Nat}, (∀ r, r < n → q r = q' r) → cnt q n = cnt q' n
  | 0, _ => rfl
  | n + 1, h => by rw [cnt_succ, cnt_succ, cnt_congr (fun r hr => h r (by omega)), h n (by omega)]
theorem cnt_le (q : Nat → Bool) : ∀ n, cnt q n ≤ n
  | 0 => Nat.le_refl _
  | n + 1 => by
    rw [cnt_succ]
    have := cnt_le q n
    split <;> omega
theorem cnt_all : ∀ n, cnt (fun _ => true) n = n
  | 0 => rfl
  | n + 1 => by rw [cnt_succ, cnt_all n]; rfl
theorem cnt_but (i : Nat) : ∀ n, cnt (fun r => !(r == i)) n = if i < n then n - 1 else n
  | 0 => by rw [if_neg (by omega)]; rfl
  | n + 1 => by
    rw [cnt_succ, cnt_but i n]
    by_cases e : n = i
    · have h1 : ((!(n == i)) = true) = False := by simp [e]
      have h2 : ¬ i < n := by omega
      have h3 : i < n + 1 := by omega
      simp only [h1, h2, h3, if_true, if_false]; omega
    · have h1 : ((!(n == i)) = true) = True := by simp [e]
      simp only [h1, if_true]
      by_cases h : i < n
      · have h3 : i < n + 1 := by omega
        simp only [h, h3, if_true]; omega
      · have h3 : ¬ i < n + 1 := by omega
        simp only [h, h3, if_false]
/-- the lengths -/
def mlen (q : Nat → Bool) (N : Nat) : Nat → Nat := fun r => if q r = true then N else 0
theorem mask_there (q : Nat → Bool) {N : Nat} (hN : 1 ≤ N) (n : Nat) : thereTo (mlen q N) n = (List.range n).filter q := by
  unfold thereTo
  congr 1
  funext r
  unfold mlen
  cases q r <;> simp <;> omega
theorem mask_count (q : Nat → Bool) {N : Nat} (hN : 1 ≤ N) (n : Nat) : (thereTo (mlen q N) n).length = cnt q n := by rw [mask_there q hN]; rfl
theorem mask_len0 (q : Nat → Bool) {N : Nat} (hN : 1 ≤ N) (n : Nat) (h : 1 ≤ cnt q n) : len0 (mlen q N) n = N := by
  have hm : (thereTo (mlen q N) n).headD 0 ∈ thereTo (mlen q N) n := by
    have hl : 1 ≤ (thereTo (mlen q N) n).length := by rw [mask_count q hN]; exact h
    cases hx : thereTo (mlen q N) n with
    | nil => rw [hx] at hl; simp at hl
    | cons a t => simp
  have := (thereTo_mem.1 hm).2
  unfold len0
  unfold mlen at this ⊢
  split
  · rfl
  · rename_i h; rw [if_neg h] at this; omega
theorem len0_le (q : Nat → Bool) (N n : Nat) : len0 (mlen q N) n ≤ N := by
  unfold len0 mlen
  split
  · exact Nat.le_refl _
  · omega
theorem mask_alike (q : Nat → Bool) {N : Nat} (hN : 1 ≤ N) (n : Nat) : alikeTo (mlen q N) n n = true := by
  refine decide_eq_true (fun r hr => ?_)
  by_cases h : q r = true
  · right
    have h1 : 1 ≤ cnt q n := by
      have : r ∈ (List.range n).filter q := by simp [hr, h]
      unfold cnt
      exact List.length_pos_of_mem this
    rw [mask_len0 q hN n h1]
    exact if_pos h
  · left; exact if_neg h
theorem mask_first {q : Nat → Bool} {N n K : Nat} (hN : 1 ≤ N) {j : Nat} (hK : K ≤ cnt q n) (hj : j < K) : q ((firstK (mlen q N) n K).getD j 0) = true := by
  have hm := firstK_mem (getD_mem (xs := firstK (mlen q N) n K) (j := j) (by rw [firstK_len (by rw [mask_count q hN]; exact hK)]; exact hj))
  have := hm.2
  unfold mlen at this
  by_cases h : q ((firstK (fun r => if q r = true then N else 0) n K).getD j 0) = true
  · exact h
  · rw [if_neg h] at this; omega
/-- the headers -/
def mhead (B : Nat → Nat) (N : Nat) (C : Nat → Nat) (q : Nat → Bool) : Nat → Value := fun r => if q r = true then .slice (some ⟨B r, 0, none⟩) N (C r) else .slice none 0 0
abbrev maskSh (t R : Nat) (B : Nat → Nat) (N : Nat) (C : Nat → Nat) (M : Nat → Nat → Nat) (q : Nat → Bool) : Sh :=
  ⟨some ⟨t, 0, none⟩, R, R, t, 0, fun r => if q r = true then some ⟨B r, 0, none⟩ else none, mlen q N, fun r => if q r = true then C r else 0, B, fun _ => 0, M⟩
theorem mask_rd {w : World} {t R : Nat} {B : Nat → Nat} {N : Nat} {C : Nat → Nat} {M : Nat → Nat → Nat} {q : Nat → Bool} (ht : w.rowIs t 22 R (mhead B N C q)) (hr : ∀ r, r < R → q r = true → ∀ c, c < N → w.cell? ⟨B r, c, none⟩ = some (.int .u8 ((M r c : Nat) : Int))) (hb : ∀ i j, M i j < 256) : Rd w (maskSh t R B N C M q) := by
  refine ⟨fun _ => rfl, fun r hr' => ?_, fun r _ c hc => ?_, fun r hr' c hc => ?_, hb⟩
  · have := ht.cell (i := r) hr'
    rw [show w.cell? ⟨t, 0 + r, none⟩ = w.cell? ⟨t, r, none⟩ from by rw [Nat.zero_add], this]
    unfold mhead
    by_cases h : q r = true <;> simp [h, mlen]
  · have h : q r = true := by
      by_cases h : q r = true
      · exact h
      · simp only [mlen, if_neg h] at hc; omega
    simp [h]
  · have h : q r = true := by
      by_cases h : q r = true
      · exact h
      · simp only [mlen, if_neg h] at hc; omega
    simp only [mlen, if_pos h] at hc
    have := hr r hr' h c hc
    simpa using this
end Go.Proofs.YtmccmppijpcfbaaDoor
