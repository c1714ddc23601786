/- The matrix of a code: any rows of it, as many as its columns, turn no vector into noughts but noughts. No Go in sight. -/
import Derived.Test.YtmncocmeafcpfaaDoorMfEl
namespace Go.Proofs.YtmncocmeafcpfaaDoor.Mf

/-- one times the other's part -/
theorem cau (p q s : Nat) (hp : p < 256) (hq : q < 256) (hs : s < 256) (p0 : p ≠ 0) (q0 : q ≠ 0) :
    Gf.mul (p ^^^ s) (Gf.inv p) ^^^ Gf.mul (q ^^^ s) (Gf.inv q) = Gf.mul (p ^^^ q) (Gf.mul s (Gf.mul (Gf.inv p) (Gf.inv q))) := by
  have ip := Gf.inv_lt p hp
  have iq := Gf.inv_lt q hq
  have e1 : Gf.mul p (Gf.mul s (Gf.mul (Gf.inv p) (Gf.inv q))) = Gf.mul s (Gf.inv q) := by
    rw [← Gf.mul_assoc p s _ hp hs (Gf.mul_lt _ _), Gf.mul_comm p s hp hs, Gf.mul_assoc s p _ hs hp (Gf.mul_lt _ _), ← Gf.mul_assoc p _ _ hp ip iq, Gf.mul_inv p hp p0, Gf.one_mul _ iq]
  have e2 : Gf.mul q (Gf.mul s (Gf.mul (Gf.inv p) (Gf.inv q))) = Gf.mul s (Gf.inv p) := by
    rw [Gf.mul_comm (Gf.inv p) (Gf.inv q) ip iq, ← Gf.mul_assoc q s _ hq hs (Gf.mul_lt _ _), Gf.mul_comm q s hq hs, Gf.mul_assoc s q _ hs hq (Gf.mul_lt _ _), ← Gf.mul_assoc q _ _ hq iq ip, Gf.mul_inv q hq q0, Gf.one_mul _ ip]
  rw [Gf.mul_xor_left, Gf.mul_xor_left, Gf.mul_xor_left, Gf.mul_inv p hp p0, Gf.mul_inv q hq q0, e1, e2, Gf.xor4, Nat.xor_self, Nat.zero_xor, Nat.xor_comm]

theorem mul_eq_zero {a b : Nat} (ha : a < 256) (hb : b < 256) (h : Gf.mul a b = 0) (h0 : b ≠ 0) : a = 0 :=
  Gf.cancel a 0 b ha (by omega) hb h0 (by rw [h, Gf.zero_mul])
theorem inv_ne {a : Nat} (ha : a < 256) (h : a ≠ 0) : Gf.inv a ≠ 0 := fun e => by
  have := Gf.mul_inv a ha h
  rw [e, Gf.mul_zero] at this
  omega
theorem xor_ne {a b : Nat} (h : a ≠ b) : a ^^^ b ≠ 0 := fun e => h (by
  have := congrArg (· ^^^ b) e
  simp only [xor_cancel, Nat.zero_xor] at this
  exact this)

/-- the sum over a list -/
def lsum (f : Nat → Nat) : List Nat → Nat
  | [] => 0
  | y :: ys => f y ^^^ lsum f ys
theorem lsum_congr {f g : Nat → Nat} : ∀ {ys : List Nat}, (∀ y, y ∈ ys → f y = g y) → lsum f ys = lsum g ys
  | [], _ => rfl
  | y :: ys, h => by simp only [lsum]; rw [h y (List.mem_cons_self ..), lsum_congr (fun z hz => h z (List.mem_cons_of_mem _ hz))]
theorem lsum_zero : ∀ ys, lsum (fun _ => 0) ys = 0
  | [] => rfl
  | _ :: ys => by simp only [lsum]; rw [lsum_zero ys]; rfl
theorem lsum_xor (f g : Nat → Nat) : ∀ ys, lsum (fun y => f y ^^^ g y) ys = lsum f ys ^^^ lsum g ys
  | [] => by simp [lsum]
  | y :: ys => by simp only [lsum]; rw [lsum_xor f g ys, Gf.xor4]
theorem lsum_mul (c : Nat) (f : Nat → Nat) : ∀ ys, Gf.mul (lsum f ys) c = lsum (fun y => Gf.mul (f y) c) ys
  | [] => Gf.zero_mul c
  | y :: ys => by simp only [lsum]; rw [Gf.mul_xor_left, lsum_mul c f ys]
theorem lsum_lt {f : Nat → Nat} (hf : ∀ y, f y < 256) : ∀ ys, lsum f ys < 256
  | [] => by simp [lsum]
  | y :: ys => xor8 (hf y) (lsum_lt hf ys)

theorem cauchy : ∀ (ys xs : List Nat) (v : Nat → Nat), (∀ y, v y < 256) → (∀ x, x ∈ xs → x < 256) → (∀ y, y ∈ ys → y < 256) → xs.Nodup → ys.Nodup → (∀ x, x ∈ xs → ∀ y, y ∈ ys → x ≠ y) → ys.length ≤ xs.length →
    (∀ x, x ∈ xs → lsum (fun y => Gf.mul (v y) (Gf.inv (x ^^^ y))) ys = 0) → ∀ y, y ∈ ys → v y = 0
  | [], _, _, _, _, _, _, _, _, _, _, y, hy => by simp at hy
  | y0 :: ys, [], _, _, _, _, _, _, _, hl, _, _, _ => by simp at hl
  | y0 :: ys, x0 :: xs, v, hv, hx, hy, nx, ny, hne, hl, he, y, hym => by
    have bx0 := hx x0 (List.mem_cons_self ..)
    have by0 := hy y0 (List.mem_cons_self ..)
    have nx' := List.nodup_cons.1 nx
    have ny' := List.nodup_cons.1 ny
    have key : ∀ y, y ∈ ys → v y = 0 := by
      have ih := cauchy ys xs (fun y => Gf.mul (v y) (Gf.mul (y ^^^ y0) (Gf.inv (x0 ^^^ y)))) (fun y => Gf.mul_lt _ _) (fun x h => hx x (List.mem_cons_of_mem _ h)) (fun y h => hy y (List.mem_cons_of_mem _ h)) nx'.2 ny'.2
        (fun x h y h' => hne x (List.mem_cons_of_mem _ h) y (List.mem_cons_of_mem _ h')) (by simpa using hl) (fun x hxm => by
          have bx := hx x (List.mem_cons_of_mem _ hxm)
          have hxx0 : x ≠ x0 := fun e => nx'.1 (e ▸ hxm)
          have hxy0 := hne x (List.mem_cons_of_mem _ hxm) y0 (List.mem_cons_self ..)
          have hx0y0 := hne x0 (List.mem_cons_self ..) y0 (List.mem_cons_self ..)
          have E1 := he x (List.mem_cons_of_mem _ hxm)
          have E2 := he x0 (List.mem_cons_self ..)
          simp only [lsum] at E1 E2
          have F : ∀ z, z < 256 → z ≠ y0 → Gf.mul (v y0) (Gf.inv (z ^^^ y0)) ^^^ lsum (fun y => Gf.mul (v y) (Gf.inv (z ^^^ y))) ys = 0 → v y0 = lsum (fun y => Gf.mul (Gf.mul (v y) (Gf.inv (z ^^^ y))) (z ^^^ y0)) ys := by
            intro z hz hzy E
            have b := xor8 hz by0
            have h1 : Gf.mul (Gf.mul (v y0) (Gf.inv (z ^^^ y0))) (z ^^^ y0) = v y0 := by
              rw [Gf.mul_assoc _ _ _ (hv y0) (Gf.inv_lt _ b) b, Gf.mul_comm (Gf.inv (z ^^^ y0)) _ (Gf.inv_lt _ b) b, Gf.mul_inv _ b (xor_ne hzy), Gf.mul_one _ (hv y0)]
            have h2 := congrArg (fun t => Gf.mul t (z ^^^ y0)) E
            simp only [Gf.mul_xor_left, Gf.zero_mul, h1, lsum_mul] at h2
            have h3 := congrArg (· ^^^ lsum (fun y => Gf.mul (Gf.mul (v y) (Gf.inv (z ^^^ y))) (z ^^^ y0)) ys) h2
            simp only [xor_cancel, Nat.zero_xor] at h3
            exact h3
          have G1 := F x bx hxy0 E1
          have G2 := F x0 bx0 hx0y0 E2
          have G3 : lsum (fun y => Gf.mul (Gf.mul (v y) (Gf.inv (x ^^^ y))) (x ^^^ y0) ^^^ Gf.mul (Gf.mul (v y) (Gf.inv (x0 ^^^ y))) (x0 ^^^ y0)) ys = 0 := by
            rw [lsum_xor, ← G1, ← G2, Nat.xor_self]
          have bb := xor8 bx bx0
          refine mul_eq_zero (b := x ^^^ x0) (lsum_lt (fun _ => Gf.mul_lt _ _) _) bb ?_ (xor_ne hxx0)
          rw [lsum_mul, ← G3]
          refine lsum_congr (fun y hym => ?_)
          have by' := hy y (List.mem_cons_of_mem _ hym)
          have bp := xor8 bx by'
          have bq := xor8 bx0 by'
          have bs := xor8 by' by0
          have hp0 := xor_ne (hne x (List.mem_cons_of_mem _ hxm) y (List.mem_cons_of_mem _ hym))
          have hq0 := xor_ne (hne x0 (List.mem_cons_self ..) y (List.mem_cons_of_mem _ hym))
          have ip := Gf.inv_lt _ bp
          have iq := Gf.inv_lt _ bq
          have c := cau (x ^^^ y) (x0 ^^^ y) (y ^^^ y0) bp bq bs hp0 hq0
          have x1 : x ^^^ y ^^^ (y ^^^ y0) = x ^^^ y0 := by rw [← Nat.xor_assoc, xor_cancel]
          have x2 : x0 ^^^ y ^^^ (y ^^^ y0) = x0 ^^^ y0 := by rw [← Nat.xor_assoc, xor_cancel]
          have x3 : x ^^^ y ^^^ (x0 ^^^ y) = x ^^^ x0 := by rw [Nat.xor_comm x0 y, ← Nat.xor_assoc, xor_cancel]
          rw [x1, x2, x3] at c
          rw [Gf.mul_assoc (v y) _ _ (hv y) ip (xor8 bx by0), Gf.mul_assoc (v y) _ _ (hv y) iq (xor8 bx0 by0), ← Gf.mul_xor_right, Gf.mul_comm (Gf.inv (x ^^^ y)) _ ip (xor8 bx by0), Gf.mul_comm (Gf.inv (x0 ^^^ y)) _ iq (xor8 bx0 by0), c,
            Gf.mul_assoc (v y) _ _ (hv y) (Gf.mul_lt _ _) ip, Gf.mul_assoc (v y) _ _ (hv y) (Gf.mul_lt _ _) bb]
          congr 1
          rw [Gf.mul_comm (x ^^^ x0) _ bb (Gf.mul_lt _ _)]
          congr 1
          rw [Gf.mul_assoc _ _ _ bs iq ip, Gf.mul_comm (Gf.inv (x0 ^^^ y)) _ iq ip])
      intro y hym
      have h := ih y hym
      have by' := hy y (List.mem_cons_of_mem _ hym)
      have hyy0 : y ≠ y0 := fun e => ny'.1 (e ▸ hym)
      have bq := xor8 bx0 by'
      have hq0 := xor_ne (hne x0 (List.mem_cons_self ..) y (List.mem_cons_of_mem _ hym))
      refine mul_eq_zero (hv y) (Gf.mul_lt _ _) h (fun e => ?_)
      exact xor_ne hyy0 (mul_eq_zero (xor8 by' by0) (Gf.inv_lt _ bq) e (inv_ne bq hq0))
    rcases List.mem_cons.1 hym with rfl | hym'
    · have E := he x0 (List.mem_cons_self ..)
      simp only [lsum] at E
      rw [lsum_congr (g := fun _ => 0) (fun z hz => by rw [key z hz, Gf.zero_mul]), lsum_zero, Nat.xor_zero] at E
      have b := xor8 bx0 by0
      exact mul_eq_zero (hv _) (Gf.inv_lt _ b) E (inv_ne b (xor_ne (hne x0 (List.mem_cons_self ..) _ (List.mem_cons_self ..))))
    · exact key y hym'
end Go.Proofs.YtmncocmeafcpfaaDoor.Mf
