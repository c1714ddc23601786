/- Texts of this proof, joined: MfCau, MfCav, MfRs, MfS0. -/
import Derived.Test.YtmncocmeafcpfaaDoorMgAE
/- The matrix of a code: any rows of it, as many as its columns, turn no vector into noughts but noughts. No Go in sight. -/
namespace Go.Proofs.YtmncocmeafcpfaaDoor.Mf

/-- one times the other's part -/
theorem cau (p q s : Nat) (hp : p < 256) (hq : q < 256) (hs : s < 256) (p0 : p ≠ 0) (q0 : q ≠ 0) :
    Gf.mul (p ^^^ s) (Gf.inv p) ^^^ Gf.mul (q ^^^ s) (Gf.inv q) = Gf.mul (p ^^^ q) (Gf.mul s (Gf.mul (Gf.inv p) (Gf.inv q))) := by
  have ip := Gf.inv_lt p hp
  have iq := Gf.inv_lt q hq
  have e1 : Gf.mul p (Gf.mul s (Gf.mul (Gf.inv p) (Gf.inv q))) = Gf.mul s (Gf.inv q) := by
    rw [← Gf.mul_assoc p s _ hp hs (Gf.mul_lt _ _), Gf.mul_comm p s hp hs, Gf.mul_assoc s p _ hs hp (Gf.mul_lt _ _), ← Gf.mul_assoc p _ _ hp ip iq, Gf.mul_inv p hp p0, Gf.one_mul _ iq]
  have e2 : Gf.mul q (Gf.mul s (Gf.mul (Gf.inv p) (Gf.inv q))) = Gf.mul s (Gf.inv p) := by
    rw [Gf.mul_comm (Gf.inv p) (Gf.inv q) ip iq, ← Gf.mul_assoc q s _ hq hs (Gf.mul_lt _ _), Gf.mul_comm q s hq hs, Gf.mul_assoc s q _ hs hq (Gf.mul_lt _ _), ← Gf.mul_assoc q _ _ hq iq ip, Gf.mul_inv q hq q0, Gf.one_mul _ ip]
  rw [Gf.mul_xor_left, Gf.mul_xor_left, Gf.mul_xor_left, Gf.mul_inv p hp p0, Gf.mul_inv q hq q0, e1, e2, Gf.xor4, Nat.xor_self, Nat.zero_xor, Nat.xor_comm]

theorem mul_eq_zero {a b : Nat} (ha : a < 256) (hb : b < 256) (h : Gf.mul a b = 0) (h0 : b ≠ 0) : a = 0 :=
  Gf.cancel a 0 b ha (by omega) hb h0 (by rw [h, Gf.zero_mul])
theorem inv_ne {a : Nat} (ha : a < 256) (h : a ≠ 0) : Gf.inv a ≠ 0 := fun e => by
  have := Gf.mul_inv a ha h
  rw [e, Gf.mul_zero] at this
  omega
theorem xor_ne {a b : Nat} (h : a ≠ b) : a ^^^ b ≠ 0 := fun e => h (by
  have := congrArg (· ^^^ b) e
  simp only [xor_cancel, Nat.zero_xor] at this
  exact this)

/-- the sum over a list -/
def lsum (f : Nat → Nat) : List Nat → Nat
  | [] => 0
  | y :: ys => f y ^^^ lsum f ys
theorem lsum_congr {f g : Nat → Nat} : ∀ {ys : List Nat}, (∀ y, y ∈ ys → f y = g y) → lsum f ys = lsum g ys
  | [], _ => rfl
  | y :: ys, h => by simp only [lsum]; rw [h y (List.mem_cons_self ..), lsum_congr (fun z hz => h z (List.mem_cons_of_mem _ hz))]
theorem lsum_zero : ∀ ys, lsum (fun _ => 0) ys = 0
  | [] => rfl
  | _ :: ys => by simp only [lsum]; rw [lsum_zero ys]; rfl
theorem lsum_xor (f g : Nat → Nat) : ∀ ys, lsum (fun y => f y ^^^ g y) ys = lsum f ys ^^^ lsum g ys
  | [] => by simp [lsum]
  | y :: ys => by simp only [lsum]; rw [lsum_xor f g ys, Gf.xor4]
theorem lsum_mul (c : Nat) (f : Nat → Nat) : ∀ ys, Gf.mul (lsum f ys) c = lsum (fun y => Gf.mul (f y) c) ys
  | [] => Gf.zero_mul c
  | y :: ys => by simp only [lsum]; rw [Gf.mul_xor_left, lsum_mul c f ys]
theorem lsum_lt {f : Nat → Nat} (hf : ∀ y, f y < 256) : ∀ ys, lsum f ys < 256
  | [] => by simp [lsum]
  | y :: ys => xor8 (hf y) (lsum_lt hf ys)

theorem cauchy : ∀ (ys xs : List Nat) (v : Nat → Nat), (∀ y, v y < 256) → (∀ x, x ∈ xs → x < 256) → (∀ y, y ∈ ys → y < 256) → xs.Nodup → ys.Nodup → (∀ x, x ∈ xs → ∀ y, y ∈ ys → x ≠ y) → ys.length ≤ xs.length →
    (∀ x, x ∈ xs → lsum (fun y => Gf.mul (v y) (Gf.inv (x ^^^ y))) ys = 0) → ∀ y, y ∈ ys → v y = 0
  | [], _, _, _, _, _, _, _, _, _, _, y, hy => by simp at hy
  | y0 :: ys, [], _, _, _, _, _, _, _, hl, _, _, _ => by simp at hl
  | y0 :: ys, x0 :: xs, v, hv, hx, hy, nx, ny, hne, hl, he, y, hym => by
    have bx0 := hx x0 (List.mem_cons_self ..)
    have by0 := hy y0 (List.mem_cons_self ..)
    have nx' := List.nodup_cons.1 nx
    have ny' := List.nodup_cons.1 ny
    have key : ∀ y, y ∈ ys → v y = 0 := by
      have ih := cauchy ys xs (fun y => Gf.mul (v y) (Gf.mul (y ^^^ y0) (Gf.inv (x0 ^^^ y)))) (fun y => Gf.mul_lt _ _) (fun x h => hx x (List.mem_cons_of_mem _ h)) (fun y h => hy y (List.mem_cons_of_mem _ h)) nx'.2 ny'.2
        (fun x h y h' => hne x (List.mem_cons_of_mem _ h) y (List.mem_cons_of_mem _ h')) (by simpa using hl) (fun x hxm => by
          have bx := hx x (List.mem_cons_of_mem _ hxm)
          have hxx0 : x ≠ x0 := fun e => nx'.1 (e ▸ hxm)
          have hxy0 := hne x (List.mem_cons_of_mem _ hxm) y0 (List.mem_cons_self ..)
          have hx0y0 := hne x0 (List.mem_cons_self ..) y0 (List.mem_cons_self ..)
          have E1 := he x (List.mem_cons_of_mem _ hxm)
          have E2 := he x0 (List.mem_cons_self ..)
          simp only [lsum] at E1 E2
          have F : ∀ z, z < 256 → z ≠ y0 → Gf.mul (v y0) (Gf.inv (z ^^^ y0)) ^^^ lsum (fun y => Gf.mul (v y) (Gf.inv (z ^^^ y))) ys = 0 → v y0 = lsum (fun y => Gf.mul (Gf.mul (v y) (Gf.inv (z ^^^ y))) (z ^^^ y0)) ys := by
            intro z hz hzy E
            have b := xor8 hz by0
            have h1 : Gf.mul (Gf.mul (v y0) (Gf.inv (z ^^^ y0))) (z ^^^ y0) = v y0 := by
              rw [Gf.mul_assoc _ _ _ (hv y0) (Gf.inv_lt _ b) b, Gf.mul_comm (Gf.inv (z ^^^ y0)) _ (Gf.inv_lt _ b) b, Gf.mul_inv _ b (xor_ne hzy), Gf.mul_one _ (hv y0)]
            have h2 := congrArg (fun t => Gf.mul t (z ^^^ y0)) E
            simp only [Gf.mul_xor_left, Gf.zero_mul, h1, lsum_mul] at h2
            have h3 := congrArg (· ^^^ lsum (fun y => Gf.mul (Gf.mul (v y) (Gf.inv (z ^^^ y))) (z ^^^ y0)) ys) h2
            simp only [xor_cancel, Nat.zero_xor] at h3
            exact h3
          have G1 := F x bx hxy0 E1
          have G2 := F x0 bx0 hx0y0 E2
          have G3 : lsum (fun y => Gf.mul (Gf.mul (v y) (Gf.inv (x ^^^ y))) (x ^^^ y0) ^^^ Gf.mul (Gf.mul (v y) (Gf.inv (x0 ^^^ y))) (x0 ^^^ y0)) ys = 0 := by
            rw [lsum_xor, ← G1, ← G2, Nat.xor_self]
          have bb := xor8 bx bx0
          refine mul_eq_zero (b := x ^^^ x0) (lsum_lt (fun _ => Gf.mul_lt _ _) _) bb ?_ (xor_ne hxx0)
          rw [lsum_mul, ← G3]
          refine lsum_congr (fun y hym => ?_)
          have by' := hy y (List.mem_cons_of_mem _ hym)
          have bp := xor8 bx by'
          have bq := xor8 bx0 by'
          have bs := xor8 by' by0
          have hp0 := xor_ne (hne x (List.mem_cons_of_mem _ hxm) y (List.mem_cons_of_mem _ hym))
          have hq0 := xor_ne (hne x0 (List.mem_cons_self ..) y (List.mem_cons_of_mem _ hym))
          have ip := Gf.inv_lt _ bp
          have iq := Gf.inv_lt _ bq
          have c := cau (x ^^^ y) (x0 ^^^ y) (y ^^^ y0) bp bq bs hp0 hq0
          have x1 : x ^^^ y ^^^ (y ^^^ y0) = x ^^^ y0 := by rw [← Nat.xor_assoc, xor_cancel]
          have x2 : x0 ^^^ y ^^^ (y ^^^ y0) = x0 ^^^ y0 := by rw [← Nat.xor_assoc, xor_cancel]
          have x3 : x ^^^ y ^^^ (x0 ^^^ y) = x ^^^ x0 := by rw [Nat.xor_comm x0 y, ← Nat.xor_assoc, xor_cancel]
          rw [x1, x2, x3] at c
          rw [Gf.mul_assoc (v y) _ _ (hv y) ip (xor8 bx by0), Gf.mul_assoc (v y) _ _ (hv y) iq (xor8 bx0 by0), ← Gf.mul_xor_right, Gf.mul_comm (Gf.inv (x ^^^ y)) _ ip (xor8 bx by0), Gf.mul_comm (Gf.inv (x0 ^^^ y)) _ iq (xor8 bx0 by0), c,
            Gf.mul_assoc (v y) _ _ (hv y) (Gf.mul_lt _ _) ip, Gf.mul_assoc (v y) _ _ (hv y) (Gf.mul_lt _ _) bb]
          congr 1
          rw [Gf.mul_comm (x ^^^ x0) _ bb (Gf.mul_lt _ _)]
          congr 1
          rw [Gf.mul_assoc _ _ _ bs iq ip, Gf.mul_comm (Gf.inv (x0 ^^^ y)) _ iq ip])
      intro y hym
      have h := ih y hym
      have by' := hy y (List.mem_cons_of_mem _ hym)
      have hyy0 : y ≠ y0 := fun e => ny'.1 (e ▸ hym)
      have bq := xor8 bx0 by'
      have hq0 := xor_ne (hne x0 (List.mem_cons_self ..) y (List.mem_cons_of_mem _ hym))
      refine mul_eq_zero (hv y) (Gf.mul_lt _ _) h (fun e => ?_)
      exact xor_ne hyy0 (mul_eq_zero (xor8 by' by0) (Gf.inv_lt _ bq) e (inv_ne bq hq0))
    rcases List.mem_cons.1 hym with rfl | hym'
    · have E := he x0 (List.mem_cons_self ..)
      simp only [lsum] at E
      rw [lsum_congr (g := fun _ => 0) (fun z hz => by rw [key z hz, Gf.zero_mul]), lsum_zero, Nat.xor_zero] at E
      have b := xor8 bx0 by0
      exact mul_eq_zero (hv _) (Gf.inv_lt _ b) E (inv_ne b (xor_ne (hne x0 (List.mem_cons_self ..) _ (List.mem_cons_self ..))))
    · exact key y hym'
end Go.Proofs.YtmncocmeafcpfaaDoor.Mf

/- Any K rows of a code's matrix have an inverse: the counting. No Go in sight. -/
namespace Go.Proofs.YtmncocmeafcpfaaDoor.Mf

/-- the matrix of a code of K data -/
def gen (K : Nat) : Nat → Nat → Nat := fun r c => if r < K then ones K r c else Gf.inv (r ^^^ c)

theorem nodup_lt : ∀ (K : Nat) (l : List Nat), l.Nodup → (∀ x, x ∈ l → x < K) → l.length ≤ K
  | 0, [], _, _ => Nat.le_refl _
  | 0, x :: _, _, h => absurd (h x (List.mem_cons_self ..)) (Nat.not_lt_zero _)
  | K + 1, l, hn, h => by
    by_cases hm : K ∈ l
    · have h1 := nodup_lt K (l.erase K) (hn.erase K) (fun x hx => by
        have := (hn.mem_erase_iff).1 hx
        have := h x this.2
        omega)
      rw [List.length_erase_of_mem hm] at h1
      have : 0 < l.length := List.length_pos_of_mem hm
      omega
    · have := nodup_lt K l hn (fun x hx => by
        have h1 := h x hx
        have : x ≠ K := fun e => hm (e ▸ hx)
        omega)
      omega
theorem filter_both (p : Nat → Bool) : ∀ l : List Nat, (l.filter p).length + (l.filter fun x => !p x).length = l.length
  | [] => rfl
  | x :: l => by
    have := filter_both p l
    cases h : p x <;> simp [h] <;> omega
theorem lsum_append (f : Nat → Nat) : ∀ a b, lsum f (a ++ b) = lsum f a ^^^ lsum f b
  | [], b => by simp [lsum]
  | x :: a, b => by simp only [List.cons_append, lsum]; rw [lsum_append f a b, Nat.xor_assoc]
theorem xsum_lsum (f : Nat → Nat) : ∀ n, xsum f n = lsum f (List.range n)
  | 0 => rfl
  | n + 1 => by rw [List.range_succ, lsum_append, ← xsum_lsum f n]; simp [xsum, lsum]
theorem lsum_filter (f : Nat → Nat) (p : Nat → Bool) : ∀ l : List Nat, (∀ y, y ∈ l → p y = false → f y = 0) → lsum f (l.filter p) = lsum f l
  | [], _ => rfl
  | y :: l, h => by
    have ih := lsum_filter f p l (fun z hz => h z (List.mem_cons_of_mem _ hz))
    cases hp : p y
    · rw [List.filter_cons_of_neg (by simp [hp]), ih]
      simp only [lsum]
      rw [h y (List.mem_cons_self ..) hp, Nat.zero_xor]
    · rw [List.filter_cons_of_pos hp]
      simp only [lsum]
      rw [ih]

/-- of which columns the unit row is picked -/
def picked (l : Nat → Nat) (K c : Nat) : Bool := (List.range K).any fun j => l j == c
theorem picked_iff {l : Nat → Nat} {K c : Nat} : picked l K c = true ↔ ∃ j, j < K ∧ l j = c := by
  unfold picked
  rw [List.any_eq_true]
  exact ⟨fun ⟨j, h1, h2⟩ => ⟨j, List.mem_range.1 h1, beq_iff_eq.1 h2⟩, fun ⟨j, h1, h2⟩ => ⟨j, List.mem_range.2 h1, beq_iff_eq.2 h2⟩⟩

theorem map_nodup {l : Nat → Nat} {K : Nat} (inc : ∀ j j', j < j' → j' < K → l j < l j') (p : Nat → Bool) : (((List.range K).filter p).map l).Nodup := by
  show List.Pairwise (fun a b => a ≠ b) _
  rw [List.pairwise_map]
  have h1 : List.Pairwise (fun a b => a < b) ((List.range K).filter p) := List.Pairwise.sublist List.filter_sublist List.pairwise_lt_range
  refine List.Pairwise.imp_of_mem (fun {a b} ha hb hab => ?_) h1
  have hb' := List.mem_range.1 (List.mem_filter.1 hb).1
  have := inc a b hab hb'
  omega

theorem any_kernel (K : Nat) (l : Nat → Nat) (hl : ∀ j, j < K → l j < 256) (hK : K ≤ 256) (inc : ∀ j j', j < j' → j' < K → l j < l j') (v : Nat → Nat) (hv : ∀ c, v c < 256)
    (h : ∀ j, j < K → prodTo (fun r => gen K (l r)) (fun x _ => v x) K j 0 = 0) : ∀ c, c < K → v c = 0 := by
  have hpick : ∀ c, c < K → picked l K c = true → v c = 0 := fun c hc hp => by
    obtain ⟨j, hj, e⟩ := picked_iff.1 hp
    have hz := h j hj
    unfold prodTo at hz
    rw [xsum_congr (g := fun x => Gf.mul (v x) (ones K c x)) (fun x _ => by dsimp only; unfold gen; rw [e, if_pos hc]),
      xsum_single (i := c) (fun x hx => by rw [ones_ne K c x hx, Gf.mul_zero]) hc, ones_self K c hc, Gf.mul_one _ (hv c)] at hz
    exact hz
  have hrest : ∀ c, c ∈ (List.range K).filter (fun c => !picked l K c) → v c = 0 := by
    refine cauchy ((List.range K).filter (fun c => !picked l K c)) (((List.range K).filter (fun j => !decide (l j < K))).map l) v hv ?_ ?_ (map_nodup inc _) ?_ ?_ ?_ ?_
    · intro x hx
      obtain ⟨j, hj, rfl⟩ := List.mem_map.1 hx
      exact hl j (List.mem_range.1 (List.mem_filter.1 hj).1)
    · intro y hy
      have := List.mem_range.1 (List.mem_filter.1 hy).1
      omega
    · exact List.Pairwise.sublist List.filter_sublist List.nodup_range
    · intro x hx y hy
      obtain ⟨j, hj, rfl⟩ := List.mem_map.1 hx
      have h1 := (List.mem_filter.1 hj).2
      have h2 := List.mem_range.1 (List.mem_filter.1 hy).1
      simp at h1
      omega
    · have hsel : (((List.range K).filter (fun j => decide (l j < K))).map l ++ (List.range K).filter (fun c => !picked l K c)).length ≤ K := by
        refine nodup_lt K _ ?_ ?_
        · refine List.nodup_append.2 ⟨map_nodup inc _, List.Pairwise.sublist List.filter_sublist List.nodup_range, fun a ha b hb e => ?_⟩
          subst e
          obtain ⟨j, hj, e⟩ := List.mem_map.1 ha
          have h1 := (List.mem_filter.1 hb).2
          have h2 : picked l K a = true := picked_iff.2 ⟨j, List.mem_range.1 (List.mem_filter.1 hj).1, e⟩
          rw [h2] at h1
          simp at h1
        · intro x hx
          rcases List.mem_append.1 hx with hx | hx
          · obtain ⟨j, hj, rfl⟩ := List.mem_map.1 hx
            have h1 := (List.mem_filter.1 hj).2
            simpa using h1
          · exact List.mem_range.1 (List.mem_filter.1 hx).1
      have hb := filter_both (fun j => decide (l j < K)) (List.range K)
      rw [List.length_append, List.length_map] at hsel
      rw [List.length_map]
      rw [List.length_range] at hb
      omega
    · intro x hx
      obtain ⟨j, hj, rfl⟩ := List.mem_map.1 hx
      have hjK := List.mem_range.1 (List.mem_filter.1 hj).1
      have h1 := (List.mem_filter.1 hj).2
      simp at h1
      have hz := h j hjK
      unfold prodTo at hz
      rw [xsum_congr (g := fun x => Gf.mul (v x) (Gf.inv (l j ^^^ x))) (fun x _ => by dsimp only; unfold gen; rw [if_neg (by omega)]), xsum_lsum] at hz
      rw [lsum_filter _ _ _ (fun y hy hp => ?_)]
      · exact hz
      · have hp' : picked l K y = true := by simpa using hp
        rw [hpick y (List.mem_range.1 hy) hp', Gf.zero_mul]
  intro c hc
  by_cases hp : picked l K c = true
  · exact hpick c hc hp
  · exact hrest c (List.mem_filter.2 ⟨List.mem_range.2 hc, by simpa using hp⟩)

theorem gen_lt (K r c : Nat) : gen K r c < 256 := by
  unfold gen; split
  · exact ones_lt _ _ _
  · exact Gf.mul_lt _ _
end Go.Proofs.YtmncocmeafcpfaaDoor.Mf

/- Shards, plain: what is encoded, what any K of them tell, what a turned byte does. No Go in sight. -/
namespace Go.Proofs.YtmncocmeafcpfaaDoor.Mf

/-- all shards of the data -/
def enc (K : Nat) (D : Nat → Nat → Nat) : Nat → Nat → Nat := fun i p => prodTo (gen K) D K i p
theorem enc_lt (K : Nat) (D : Nat → Nat → Nat) (i p : Nat) : enc K D i p < 256 := prodTo_lt _ _ _ _ _
theorem gen_ones {K i : Nat} (h : i < K) (c : Nat) : gen K i c = ones K i c := by unfold gen; rw [if_pos h]
theorem enc_data {K : Nat} {D : Nat → Nat → Nat} (hD : ∀ i j, D i j < 256) {i : Nat} (h : i < K) (p : Nat) : enc K D i p = D i p := by
  unfold enc
  rw [prodTo_congr (a' := ones K) (b' := D) (fun x _ => gen_ones h x) (fun _ _ => rfl)]
  exact ones_prod D hD K i p h
theorem enc_congr {K : Nat} {D D' : Nat → Nat → Nat} {p p' : Nat} (h : ∀ j, j < K → D j p = D' j p') (i : Nat) : enc K D i p = enc K D' i p' := by
  unfold enc prodTo
  exact xsum_congr (fun x hx => by rw [h x hx])
theorem enc_xor (K : Nat) (D D' : Nat → Nat → Nat) (i p : Nat) : enc K (fun j q => D j q ^^^ D' j q) i p = enc K D i p ^^^ enc K D' i p := by
  unfold enc prodTo
  rw [← xsum_xor]
  exact xsum_congr (fun x _ => by rw [Gf.mul_xor_left])
/-- the inverse of the rows that are there, times those shards, is the data -/
theorem back_data {K : Nat} {D : Nat → Nat → Nat} (hD : ∀ i j, D i j < 256) {l : Nat → Nat} {W : Nat → Nat → Nat} (hE : El (fun r => gen K (l r)) K K W) (i p : Nat) (hi : i < K) :
    prodTo (right W K) (fun j q => enc K D (l j) q) K i p = D i p := by
  have hg : ∀ i j, (fun r => gen K (l r)) i j < 256 := fun _ _ => gen_lt _ _ _
  have hW : ∀ i j, right W K i j < 256 := fun i j => (hE.keeps hg).byte _ _
  have e := prod_assoc (right W K) (fun r => gen K (l r)) D hW hg hD K K i p
  have e2 : prodTo (right W K) (fun j q => enc K D (l j) q) K i p = prodTo (right W K) (fun i k => prodTo (fun r => gen K (l r)) D K i k) K i p := rfl
  rw [e2, ← e]
  rw [prodTo_congr (a' := ones K) (b' := D) (fun x hx => (hE.inverse hg).2 i x hi hx) (fun _ _ => rfl)]
  exact ones_prod D hD K i p hi
/-- of any K shards all are told -/
theorem dec_all {K : Nat} {D : Nat → Nat → Nat} (hD : ∀ i j, D i j < 256) {l to : Nat → Nat} {W : Nat → Nat → Nat} (hE : El (fun r => gen K (l r)) K K W) (i p : Nat) :
    prodTo (fun i k => prodTo (fun r => gen K (to r)) (right W K) K i k) (fun j q => enc K D (l j) q) K i p = enc K D (to i) p := by
  have hg : ∀ i j, (fun r => gen K (l r)) i j < 256 := fun _ _ => gen_lt _ _ _
  have hW : ∀ i j, right W K i j < 256 := fun i j => (hE.keeps hg).byte _ _
  have hg2 : ∀ i j, (fun r => gen K (to r)) i j < 256 := fun _ _ => gen_lt _ _ _
  have hk : ∀ i j, (fun j q => enc K D (l j) q) i j < 256 := fun _ _ => enc_lt _ _ _ _
  have e := prod_assoc (fun r => gen K (to r)) (right W K) (fun j q => enc K D (l j) q) hg2 hW hk K K i p
  rw [e]
  exact prodTo_congr (a := fun r => gen K (to r)) (a' := fun r => gen K (to r)) (b' := D) (i := i) (k := p) (fun _ _ => rfl) (fun x hx => back_data hD hE x p hx)

theorem gen_ne {K i c : Nat} (h : K ≤ i) (hc : c < K) (hi : i < 256) : gen K i c ≠ 0 := by
  unfold gen
  rw [if_neg (by omega)]
  exact inv_ne (xor8 hi (by omega)) (xor_ne (by omega))
theorem mul_ne {a b : Nat} (ha : a < 256) (hb : b < 256) (a0 : a ≠ 0) (b0 : b ≠ 0) : Gf.mul a b ≠ 0 := fun h => a0 (mul_eq_zero ha hb h b0)
theorem xor_eq_self {a b : Nat} (h : a ^^^ b = a) : b = 0 := by
  have : a ^^^ (a ^^^ b) = a ^^^ a := by rw [h]
  rwa [← Nat.xor_assoc, Nat.xor_self, Nat.zero_xor] at this
/-- with one of the data turned each of the others' bytes there is another one -/
theorem enc_turned {K : Nat} {D D' : Nat → Nat → Nat} {k p v : Nat} (hk : k < K) (hv : v < 256) (v0 : v ≠ 0) (h1 : D' k p = D k p ^^^ v) (h2 : ∀ j, j < K → j ≠ k → D' j p = D j p) {i : Nat} (hi : K ≤ i) (hi2 : i < 256) :
    enc K D' i p ≠ enc K D i p := by
  have e : enc K D' i p = enc K D i p ^^^ Gf.mul v (gen K i k) := by
    have e1 : enc K D' i p = enc K (fun j q => D j q ^^^ (if j = k then v else 0)) i p := enc_congr (fun j hj => by
      by_cases e : j = k
      · subst e; simp [h1]
      · simp [e, h2 j hj e]) i
    rw [e1, enc_xor]
    congr 1
    unfold enc prodTo
    rw [xsum_single (i := k) (fun j hj => by simp [hj, Gf.zero_mul]) hk]
    simp
  intro hE
  rw [e] at hE
  exact mul_ne hv (gen_lt _ _ _) v0 (gen_ne hi hk hi2) (xor_eq_self hE)
end Go.Proofs.YtmncocmeafcpfaaDoor.Mf

/- Stripes, plain: how long shards are, where each byte of a blob stands. No Go in sight. -/
namespace Go.Proofs.YtmncocmeafcpfaaDoor.Mf

def stripesOf (K size : Nat) : Nat := max 1 ((size + K * 8 - 1) / (K * 8))
def lenOf (K size : Nat) : Nat := stripesOf K size * 8
theorem quot_le {K size : Nat} (hK : 1 ≤ K) (hs : size ≤ 400) : (size + K * 8 - 1) / (K * 8) ≤ 50 := by
  have h : (size + K * 8 - 1) / (K * 8) * (K * 8) ≤ size + K * 8 - 1 := Nat.div_mul_le_self _ _
  generalize (size + K * 8 - 1) / (K * 8) = q at h
  rcases Nat.lt_or_ge 50 q with hq | hq
  · have : 51 * (K * 8) ≤ q * (K * 8) := Nat.mul_le_mul_right _ hq
    omega
  · exact hq
theorem stripesOf_bd {K size : Nat} (hK : 1 ≤ K) (hs : size ≤ 400) : 1 ≤ stripesOf K size ∧ stripesOf K size ≤ 50 := by
  have := quot_le hK hs
  unfold stripesOf; omega
theorem lenOf_bd {K size : Nat} (hK : 1 ≤ K) (hs : size ≤ 400) : 8 ≤ lenOf K size ∧ lenOf K size ≤ 400 := by
  have := stripesOf_bd hK hs
  unfold lenOf; omega
theorem quot_eq {K size : Nat} (hK : 1 ≤ K) : ((size : Int) + (K : Int) * 8 - 1).tdiv ((K : Int) * 8) = (((size + K * 8 - 1) / (K * 8) : Nat) : Int) := by
  rw [show (size : Int) + (K : Int) * 8 - 1 = ((size + K * 8 - 1 : Nat) : Int) from by omega, show (K : Int) * 8 = ((K * 8 : Nat) : Int) from by omega]
  rfl
/-- in which shard byte i stands, and where -/
def seatK (K i : Nat) : Nat := i % (K * 8) / 8
def seatAt (K i : Nat) : Nat := i / (K * 8) * 8 + i % (K * 8) % 8
/-- which byte stands in shard j at p -/
def byteAt (K j p : Nat) : Nat := (p / 8 * K + j) * 8 + p % 8
theorem seatK_lt {K : Nat} (hK : 1 ≤ K) (i : Nat) : seatK K i < K := by
  have := Nat.mod_lt i (show 0 < K * 8 by omega)
  unfold seatK; omega
theorem byteAt_seat {K : Nat} (i : Nat) : byteAt K (seatK K i) (seatAt K i) = i := by
  unfold byteAt seatK seatAt
  have e1 : (i / (K * 8) * 8 + i % (K * 8) % 8) / 8 = i / (K * 8) := by omega
  have e2 : (i / (K * 8) * 8 + i % (K * 8) % 8) % 8 = i % (K * 8) % 8 := by omega
  rw [e1, e2]
  have h := Nat.div_add_mod i (K * 8)
  have e3 : (i / (K * 8) * K + i % (K * 8) / 8) * 8 = K * 8 * (i / (K * 8)) + i % (K * 8) / 8 * 8 := by
    rw [Nat.add_mul, Nat.mul_assoc, Nat.mul_comm (i / (K * 8)) (K * 8)]
  omega
theorem byte_split {K j p : Nat} (hj : j < K) : byteAt K j p / (K * 8) = p / 8 ∧ byteAt K j p % (K * 8) = j * 8 + p % 8 := by
  have e : byteAt K j p = (j * 8 + p % 8) + K * 8 * (p / 8) := by
    unfold byteAt
    rw [Nat.add_mul, Nat.mul_assoc, Nat.mul_comm (p / 8) (K * 8)]; omega
  have hl : j * 8 + p % 8 < K * 8 := by omega
  rw [e, Nat.add_mul_div_left _ _ (by omega), Nat.add_mul_mod_self_left, Nat.div_eq_of_lt hl, Nat.mod_eq_of_lt hl]
  omega
theorem seat_byte {K j p : Nat} (hj : j < K) : seatK K (byteAt K j p) = j ∧ seatAt K (byteAt K j p) = p := by
  obtain ⟨h1, h2⟩ := byte_split (p := p) hj
  unfold seatK seatAt
  rw [h1, h2]; omega
theorem byteAt_iff {K j p i : Nat} (hj : j < K) : byteAt K j p = i ↔ j = seatK K i ∧ p = seatAt K i := by
  constructor
  · rintro rfl
    obtain ⟨h1, h2⟩ := seat_byte (p := p) hj
    exact ⟨h1.symm, h2.symm⟩
  · rintro ⟨rfl, rfl⟩
    exact byteAt_seat i
theorem seatAt_lt {K size i : Nat} (hK : 1 ≤ K) (hi : i < size) : seatAt K i < lenOf K size := by
  unfold seatAt lenOf
  have h1 : i / (K * 8) + 1 ≤ (size + K * 8 - 1) / (K * 8) := by
    rw [Nat.le_div_iff_mul_le (by omega), Nat.add_mul, Nat.one_mul]
    have := Nat.div_mul_le_self i (K * 8)
    omega
  have h2 : i / (K * 8) + 1 ≤ stripesOf K size := by unfold stripesOf; omega
  omega
/-- the data, when cnt of the bytes f are dealt out -/
def cutAt (K : Nat) (f : Nat → Nat) (cnt : Nat) : Nat → Nat → Nat := fun j p => if byteAt K j p < cnt then f (byteAt K j p) else 0
theorem cutAt_zero (K : Nat) (f : Nat → Nat) : cutAt K f 0 = fun _ _ => 0 := by funext j p; simp [cutAt]
theorem cutAt_lt {f : Nat → Nat} (hf : ∀ i, f i < 256) (K cnt j p : Nat) : cutAt K f cnt j p < 256 := by
  unfold cutAt; split
  · exact hf _
  · omega
theorem cutAt_step (K : Nat) (f : Nat → Nat) (cnt : Nat) {j : Nat} (hj : j < K) (p : Nat) : (if j = seatK K cnt ∧ p = seatAt K cnt then f cnt else cutAt K f cnt j p) = cutAt K f (cnt + 1) j p := by
  unfold cutAt
  by_cases e : byteAt K j p = cnt
  · rw [if_pos ((byteAt_iff hj).1 e), if_pos (by omega), e]
  · rw [if_neg (fun h => e ((byteAt_iff hj).2 h))]
    by_cases h : byteAt K j p < cnt
    · rw [if_pos h, if_pos (by omega)]
    · rw [if_neg h, if_neg (by omega)]
theorem cutAt_seat (K : Nat) (f : Nat → Nat) {cnt i : Nat} (hi : i < cnt) : cutAt K f cnt (seatK K i) (seatAt K i) = f i := by
  unfold cutAt
  rw [byteAt_seat, if_pos hi]
theorem seat_eq {K i : Nat} (_hK : 1 ≤ K) : (i : Int).tdiv ((K : Int) * 8) = ((i / (K * 8) : Nat) : Int) ∧ (i : Int).tmod ((K : Int) * 8) = ((i % (K * 8) : Nat) : Int) := by
  rw [show (K : Int) * 8 = ((K * 8 : Nat) : Int) from by omega]
  exact ⟨rfl, rfl⟩
end Go.Proofs.YtmncocmeafcpfaaDoor.Mf
