/- Any K rows of a code's matrix have an inverse: the counting. No Go in sight. -/
import Derived.Test.YtmncocmeafcpfaaDoorMfCau
namespace Go.Proofs.YtmncocmeafcpfaaDoor.Mf

/-- the matrix of a code of K data -/
def gen (K : Nat) : Nat → Nat → Nat := fun r c => if r < K then ones K r c else Gf.inv (r ^^^ c)

theorem nodup_lt : ∀ (K : Nat) (l : List Nat), l.Nodup → (∀ x, x ∈ l → x < K) → l.length ≤ K
  | 0, [], _, _ => Nat.le_refl _
  | 0, x :: _, _, h => absurd (h x (List.mem_cons_self ..)) (Nat.not_lt_zero _)
  | K + 1, l, hn, h => by
    by_cases hm : K ∈ l
    · have h1 := nodup_lt K (l.erase K) (hn.erase K) (fun x hx => by
        have := (hn.mem_erase_iff).1 hx
        have := h x this.2
        omega)
      rw [List.length_erase_of_mem hm] at h1
      have : 0 < l.length := List.length_pos_of_mem hm
      omega
    · have := nodup_lt K l hn (fun x hx => by
        have h1 := h x hx
        have : x ≠ K := fun e => hm (e ▸ hx)
        omega)
      omega
theorem filter_both (p : Nat → Bool) : ∀ l : List Nat, (l.filter p).length + (l.filter fun x => !p x).length = l.length
  | [] => rfl
  | x :: l => by
    have := filter_both p l
    cases h : p x <;> simp [h] <;> omega
theorem lsum_append (f : Nat → Nat) : ∀ a b, lsum f (a ++ b) = lsum f a ^^^ lsum f b
  | [], b => by simp [lsum]
  | x :: a, b => by simp only [List.cons_append, lsum]; rw [lsum_append f a b, Nat.xor_assoc]
theorem xsum_lsum (f : Nat → Nat) : ∀ n, xsum f n = lsum f (List.range n)
  | 0 => rfl
  | n + 1 => by rw [List.range_succ, lsum_append, ← xsum_lsum f n]; simp [xsum, lsum]
theorem lsum_filter (f : Nat → Nat) (p : Nat → Bool) : ∀ l : List Nat, (∀ y, y ∈ l → p y = false → f y = 0) → lsum f (l.filter p) = lsum f l
  | [], _ => rfl
  | y :: l, h => by
    have ih := lsum_filter f p l (fun z hz => h z (List.mem_cons_of_mem _ hz))
    cases hp : p y
    · rw [List.filter_cons_of_neg (by simp [hp]), ih]
      simp only [lsum]
      rw [h y (List.mem_cons_self ..) hp, Nat.zero_xor]
    · rw [List.filter_cons_of_pos hp]
      simp only [lsum]
      rw [ih]

/-- of which columns the unit row is picked -/
def picked (l : Nat → Nat) (K c : Nat) : Bool := (List.range K).any fun j => l j == c
theorem picked_iff {l : Nat → Nat} {K c : Nat} : picked l K c = true ↔ ∃ j, j < K ∧ l j = c := by
  unfold picked
  rw [List.any_eq_true]
  exact ⟨fun ⟨j, h1, h2⟩ => ⟨j, List.mem_range.1 h1, beq_iff_eq.1 h2⟩, fun ⟨j, h1, h2⟩ => ⟨j, List.mem_range.2 h1, beq_iff_eq.2 h2⟩⟩

theorem map_nodup {l : Nat → Nat} {K : Nat} (inc : ∀ j j', j < j' → j' < K → l j < l j') (p : Nat → Bool) : (((List.range K).filter p).map l).Nodup := by
  show List.Pairwise (fun a b => a ≠ b) _
  rw [List.pairwise_map]
  have h1 : List.Pairwise (fun a b => a < b) ((List.range K).filter p) := List.Pairwise.sublist List.filter_sublist List.pairwise_lt_range
  refine List.Pairwise.imp_of_mem (fun {a b} ha hb hab => ?_) h1
  have hb' := List.mem_range.1 (List.mem_filter.1 hb).1
  have := inc a b hab hb'
  omega

theorem any_kernel (K : Nat) (l : Nat → Nat) (hl : ∀ j, j < K → l j < 256) (hK : K ≤ 256) (inc : ∀ j j', j < j' → j' < K → l j < l j') (v : Nat → Nat) (hv : ∀ c, v c < 256)
    (h : ∀ j, j < K → prodTo (fun r => gen K (l r)) (fun x _ => v x) K j 0 = 0) : ∀ c, c < K → v c = 0 := by
  have hpick : ∀ c, c < K → picked l K c = true → v c = 0 := fun c hc hp => by
    obtain ⟨j, hj, e⟩ := picked_iff.1 hp
    have hz := h j hj
    unfold prodTo at hz
    rw [xsum_congr (g := fun x => Gf.mul (v x) (ones K c x)) (fun x _ => by dsimp only; unfold gen; rw [e, if_pos hc]),
      xsum_single (i := c) (fun x hx => by rw [ones_ne K c x hx, Gf.mul_zero]) hc, ones_self K c hc, Gf.mul_one _ (hv c)] at hz
    exact hz
  have hrest : ∀ c, c ∈ (List.range K).filter (fun c => !picked l K c) → v c = 0 := by
    refine cauchy ((List.range K).filter (fun c => !picked l K c)) (((List.range K).filter (fun j => !decide (l j < K))).map l) v hv ?_ ?_ (map_nodup inc _) ?_ ?_ ?_ ?_
    · intro x hx
      obtain ⟨j, hj, rfl⟩ := List.mem_map.1 hx
      exact hl j (List.mem_range.1 (List.mem_filter.1 hj).1)
    · intro y hy
      have := List.mem_range.1 (List.mem_filter.1 hy).1
      omega
    · exact List.Pairwise.sublist List.filter_sublist List.nodup_range
    · intro x hx y hy
      obtain ⟨j, hj, rfl⟩ := List.mem_map.1 hx
      have h1 := (List.mem_filter.1 hj).2
      have h2 := List.mem_range.1 (List.mem_filter.1 hy).1
      simp at h1
      omega
    · have hsel : (((List.range K).filter (fun j => decide (l j < K))).map l ++ (List.range K).filter (fun c => !picked l K c)).length ≤ K := by
        refine nodup_lt K _ ?_ ?_
        · refine List.nodup_append.2 ⟨map_nodup inc _, List.Pairwise.sublist List.filter_sublist List.nodup_range, fun a ha b hb e => ?_⟩
          subst e
          obtain ⟨j, hj, e⟩ := List.mem_map.1 ha
          have h1 := (List.mem_filter.1 hb).2
          have h2 : picked l K a = true := picked_iff.2 ⟨j, List.mem_range.1 (List.mem_filter.1 hj).1, e⟩
          rw [h2] at h1
          simp at h1
        · intro x hx
          rcases List.mem_append.1 hx with hx | hx
          · obtain ⟨j, hj, rfl⟩ := List.mem_map.1 hx
            have h1 := (List.mem_filter.1 hj).2
            simpa using h1
          · exact List.mem_range.1 (List.mem_filter.1 hx).1
      have hb := filter_both (fun j => decide (l j < K)) (List.range K)
      rw [List.length_append, List.length_map] at hsel
      rw [List.length_map]
      rw [List.length_range] at hb
      omega
    · intro x hx
      obtain ⟨j, hj, rfl⟩ := List.mem_map.1 hx
      have hjK := List.mem_range.1 (List.mem_filter.1 hj).1
      have h1 := (List.mem_filter.1 hj).2
      simp at h1
      have hz := h j hjK
      unfold prodTo at hz
      rw [xsum_congr (g := fun x => Gf.mul (v x) (Gf.inv (l j ^^^ x))) (fun x _ => by dsimp only; unfold gen; rw [if_neg (by omega)]), xsum_lsum] at hz
      rw [lsum_filter _ _ _ (fun y hy hp => ?_)]
      · exact hz
      · have hp' : picked l K y = true := by simpa using hp
        rw [hpick y (List.mem_range.1 hy) hp', Gf.zero_mul]
  intro c hc
  by_cases hp : picked l K c = true
  · exact hpick c hc hp
  · exact hrest c (List.mem_filter.2 ⟨List.mem_range.2 hc, by simpa using hp⟩)

theorem gen_lt (K r c : Nat) : gen K r c < 256 := by
  unfold gen; split
  · exact ones_lt _ _ _
  · exact Gf.mul_lt _ _
end Go.Proofs.YtmncocmeafcpfaaDoor.Mf
