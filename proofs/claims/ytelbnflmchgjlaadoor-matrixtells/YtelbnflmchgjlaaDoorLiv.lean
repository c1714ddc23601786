/- The walk of the law MatrixInverse: an inverse is one from both sides, and its inverse is the matrix. -/
import Derived.Test.YtelbnflmchgjlaaDoorM16
namespace Go.Proofs.YtelbnflmchgjlaaDoor
open Go.RowKit Go.Deep

/-- elimination that came to its end had a pivot at each step -/
theorem El.had {A : Nat → Nat → Nat} {n : Nat} : ∀ {m : Nat} {W : Nat → Nat → Nat}, El A n m W → ∀ i, i < m → ∃ V j, El A n i V ∧ Piv V n i j
  | 0, _, _, i, hi => by omega
  | m + 1, _, .step (j := j) (W := V) h _ p, i, hi => by
    by_cases e : i = m
    · subst e; exact ⟨V, j, h, p⟩
    · exact h.had i (by omega)
theorem El.fails {A : Nat → Nat → Nat} {n i : Nat} {W V : Nat → Nat → Nat} (h : El A n i W) (hi : i < n) (hno : NoPiv W n i) (g : El A n n V) : False := by
  obtain ⟨V', j, h1, h2⟩ := g.had i hi
  obtain rfl := h.unique h1
  exact h2.2.2.1 (hno j h2.1 h2.2.1)
/-- the inverse of the inverse -/
theorem inverse_twice {A : Nat → Nat → Nat} {n : Nat} (hA : ∀ i j, A i j < 256) {W V : Nat → Nat → Nat} (h : El A n n W) (g : El (right W n) n n V) (r c : Nat) (hr : r < n) (hc : c < n) : right V n r c = A r c := by
  have hW : ∀ i j, right W n i j < 256 := fun i j => (h.keeps hA).byte _ _
  have hV : ∀ i j, right V n i j < 256 := fun i j => (g.keeps hW).byte _ _
  have e := prod_assoc (right V n) (right W n) A hV hW hA n n r c
  rw [prodTo_congr (a' := ones n) (b' := A) (fun x hx => (g.inverse hW).2 r x hr hx) (fun _ _ => rfl), ones_prod A hA n r c hr] at e
  rw [e, prodTo_congr (a' := right V n) (b' := ones n) (fun _ _ => rfl) (fun x hx => (h.inverse hA).2 x c hx hc), prod_ones (right V n) hV n r c hc]

set_option maxRecDepth 100000 in
set_option maxHeartbeats 3200000 in
theorem inverse_walk (a : Value) (la : Nat) (fa : Nat → Nat) (n : Int) (w : World) (ha : Bs w a la fa) (hp : Pows w) :
    Calls Tryd.prog 5 #[a, .int .i64 n] w fun e w' => e = .returned (.bool true) ∧ Kp (fun _ => False) w w' := by
  have HN : Hid (_ = _) := nn6_eq n
  obtain ⟨b1, b2⟩ := nn6_bd n
  have hfa : Hid (∀ j, fa j < 256) := by obtain ⟨_, _, _, _, _, _, _, hf⟩ := ha; exact hf
  go_enter Tryd.func5, Tryd.ntmps5
  go_wp2_with fail
  rw [HN.out]
  clear HN
  generalize nn6 n = N at *
  refine (squareX a la N fa _ ha (by omega) b2).mono ?_
  rintro e w1 ⟨tx, cx, Bx, rfl, k1, htx, hBx, mx⟩
  have hX : Hid (∀ i j, sq fa la N i j < 256) := fun i j => sq_lt hfa.out la N i j
  obtain ⟨X, hXe⟩ : ∃ x, x = sq fa la N := ⟨_, rfl⟩
  rw [← hXe] at mx hX
  clear hXe ha hfa
  have hp1 := k1.pows hp id
  have mX := mx.mx cx
  go_wp2_with fail
  refine (invertX _ N X w1 mX (by omega) (by omega) hp1).mono ?_
  rintro e w2 ⟨k2, hor⟩
  have kk2 := k1.trans k2 (fun _ _ e => e)
  have HR : Hid (Calls _ _ _ w2 _) := refInvert_any (ofMt tx cx Bx N N X) N w2 ((mx.rd cx).keep k2) rfl (fun _ _ => rfl) (by omega) (by omega)
  rcases hor with ⟨rfl, i, W, hi, hE, hno⟩ | ⟨ty, W, rfl, hE, mY⟩
  · have HE : Hid (El X N i W ∧ NoPiv W N i) := ⟨hE, hno⟩
    clear hE hno
    go_wp2_with fail
    refine HR.out.mono ?_
    rintro e w3 ⟨k3, ⟨rfl, _⟩ | ⟨to, cap, B, C, V, rfl, hE2, _⟩⟩
    · have kk3 := kk2.trans k3 (fun _ _ e => e)
      have HA : Hid (Calls _ _ _ w3 _) := awake_any w3 (kk3.pows hp id)
      clear HR
      go_wp2_with fail
      refine HA.out.mono ?_
      rintro e w4 ⟨rfl, k4⟩
      go_wp2
      go_ret
      exact ⟨rfl, kk3.trans k4 (fun _ _ e => e)⟩
    · exact (El.fails HE.out.1 hi HE.out.2 hE2).elim
  · have HE : Hid (El X N N W) := hE
    clear hE
    go_wp2_with fail
    refine HR.out.mono ?_
    rintro e w3 ⟨k3, ⟨rfl, i, V, hi, hE2, hno⟩ | ⟨to, cap, B, C, V, rfl, _, _⟩⟩
    · exact (El.fails hE2 hi hno HE.out).elim
    · have kk3 := kk2.trans k3 (fun _ _ e => e)
      have mX3 := (mX.keep k2).keep k3
      have mY3 := mY.keep k3
      have hYl : Hid (∀ i j, right W N i j < 256) := fun i j => (HE.out.keeps hX.out).byte _ _
      clear HR mX mY
      go_wp2_with fail
      refine (identityX N w3 (by omega) (by omega)).mono ?_
      rintro e w4 ⟨vo, rfl, k4, mO⟩
      have kk4 := kk3.trans k4 (fun _ _ e => e)
      go_wp2_with fail
      refine (mulX _ _ N N N X (right W N) w4 (mX3.keep k4) (mY3.keep k4) (by omega) (by omega) (by omega) (by omega) (by omega) (by omega) (kk4.pows hp id)).mono ?_
      rintro e w5 ⟨vp, rfl, k5, mP⟩
      have kk5 := kk4.trans k5 (fun _ _ e => e)
      go_wp2_with fail
      refine (mulX _ _ N N N (right W N) X w5 ((mY3.keep k4).keep k5) ((mX3.keep k4).keep k5) (by omega) (by omega) (by omega) (by omega) (by omega) (by omega) (kk5.pows hp id)).mono ?_
      rintro e w6 ⟨vq, rfl, k6, mQ⟩
      have kk6 := kk5.trans k6 (fun _ _ e => e)
      go_wp2_with fail
      refine (invertX _ N (right W N) w6 (((mY3.keep k4).keep k5).keep k6) (by omega) (by omega) (kk6.pows hp id)).mono ?_
      rintro e w7 ⟨k7, ⟨rfl, i, V', hi, hE2, hno⟩ | ⟨tz, V', rfl, hE2, mZ⟩⟩
      · exact (no_fail hYl.out hX.out (fun r c hr hc => (HE.out.inverse hX.out).1 r c hr hc) hE2 hi hno).elim
      · have kk7 := kk6.trans k7 (fun _ _ e => e)
        have mO7 := ((mO.keep k5).keep k6).keep k7
        have H1 : Hid (Calls _ _ _ w7 _) := sameX _ _ N N _ _ w7 ((mP.keep k6).keep k7) mO7 (fun i hi j hj => (HE.out.inverse hX.out).1 i j hi hj) (by omega)
        have H2 : Hid (Calls _ _ _ w7 _) := sameX _ _ N N _ _ w7 (mQ.keep k7) mO7 (fun i hi j hj => (HE.out.inverse hX.out).2 i j hi hj) (by omega)
        have H3 : Hid (Calls _ _ _ w7 _) := sameX _ _ N N _ _ w7 mZ ((((mX3.keep k4).keep k5).keep k6).keep k7) (fun i hi j hj => inverse_twice hX.out HE.out hE2 i j hi hj) (by omega)
        clear mP mQ mZ mO mO7 mX3 mY3 hE2
        go_wp2_with fail
        refine H1.out.mono ?_
        rintro e w8 ⟨rfl, hw⟩
        obtain rfl := hw.symm
        go_wp2_with fail
        refine H2.out.mono ?_
        rintro e w8 ⟨rfl, hw⟩
        obtain rfl := hw.symm
        go_wp2_with fail
        refine H3.out.mono ?_
        rintro e w8 ⟨rfl, hw⟩
        obtain rfl := hw.symm
        go_wp2
        go_ret
        exact ⟨rfl, kk7⟩
end Go.Proofs.YtelbnflmchgjlaaDoor
