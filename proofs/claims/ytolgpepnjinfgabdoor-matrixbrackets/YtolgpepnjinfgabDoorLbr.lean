/- The walk of the law MatrixBrackets: products do not hang on the brackets; ones change nothing. -/
import Derived.Test.YtolgpepnjinfgabDoorM7
namespace Go.Proofs.YtolgpepnjinfgabDoor
open Go.RowKit Go.Deep

set_option maxRecDepth 100000 in
set_option maxHeartbeats 1600000 in
theorem brackets_walk (a b c : Value) (la lb lc : Nat) (fa fb fc : Nat → Nat) (n : Int) (w : World) (ha : Bs w a la fa) (hb : Bs w b lb fb) (hc : Bs w c lc fc) (hp : Pows w) :
    Calls Tryd.prog 6 #[a, b, c, .int .i64 n] w fun e w' => e = .returned (.bool true) ∧ Kp (fun _ => False) w w' := by
  have HN : Hid (_ = _) := nn6_eq n
  obtain ⟨b1, b2⟩ := nn6_bd n
  go_enter Tryd.func6, Tryd.ntmps6
  go_wp2_with fail
  rw [HN.out]
  clear HN
  generalize nn6 n = N at *
  refine (squareX a la N fa _ ha b1 b2).mono ?_
  rintro e w1 ⟨tx, cx, Bx, rfl, k1, _, _, mx⟩
  have X := mx.mx cx
  go_wp2_with fail
  refine (squareX b lb N fb _ (hb.keep k1) b1 b2).mono ?_
  rintro e w2 ⟨ty, cy, By', rfl, k2, _, _, my⟩
  have Y := my.mx cy
  go_wp2_with fail
  refine (squareX c lc N fc _ ((hc.keep k1).keep k2) b1 b2).mono ?_
  rintro e w3 ⟨tz, cz, Bz, rfl, k3, _, _, mz⟩
  have Z := mz.mx cz
  replace X := (X.keep k2).keep k3
  replace Y := Y.keep k3
  have k123 := (k1.trans k2 (fun _ _ e => e)).trans k3 (fun _ _ e => e)
  have hp3 := k123.pows hp id
  clear mx my mz k1 k2 k3 ha hb hc
  go_wp2_with fail
  refine (mulX _ _ N N N _ _ _ X Y b1 (by omega) b1 (by omega) b1 (by omega) hp3).mono ?_
  rintro e w4 ⟨vp, rfl, k4, P⟩
  replace X := X.keep k4
  replace Y := Y.keep k4
  replace Z := Z.keep k4
  have hp4 := k4.pows hp3 id
  go_wp2_with fail
  refine (mulX _ _ N N N _ _ _ Y Z b1 (by omega) b1 (by omega) b1 (by omega) hp4).mono ?_
  rintro e w5 ⟨vq, rfl, k5, Qm⟩
  replace X := X.keep k5
  replace Z := Z.keep k5
  replace P := P.keep k5
  have hp5 := k5.pows hp4 id
  go_wp2_with fail
  refine (mulX _ _ N N N _ _ _ P Z b1 (by omega) b1 (by omega) b1 (by omega) hp5).mono ?_
  rintro e w6 ⟨vl, rfl, k6, Lm⟩
  replace X := X.keep k6
  replace Qm := Qm.keep k6
  have hp6 := k6.pows hp5 id
  go_wp2_with fail
  refine (mulX _ _ N N N _ _ _ X Qm b1 (by omega) b1 (by omega) b1 (by omega) hp6).mono ?_
  rintro e w7 ⟨vr, rfl, k7, Rm⟩
  replace X := X.keep k7
  replace Lm := Lm.keep k7
  have hp7 := k7.pows hp6 id
  go_wp2_with fail
  refine (identityX N _ b1 (by omega)).mono ?_
  rintro e w8 ⟨vo, rfl, k8, Om⟩
  replace X := X.keep k8
  replace Lm := Lm.keep k8
  replace Rm := Rm.keep k8
  have hp8 := k8.pows hp7 id
  go_wp2_with fail
  refine (mulX _ _ N N N _ _ _ Om X b1 (by omega) b1 (by omega) b1 (by omega) hp8).mono ?_
  rintro e w9 ⟨vs, rfl, k9, Sm⟩
  have hX := X.byte
  have hY := Y.byte
  have hZ := Z.byte
  have HA : Hid (∀ i k, prodTo (fun i k => prodTo (sq fa la N) (sq fb lb N) N i k) (sq fc lc N) N i k = prodTo (sq fa la N) (fun i k => prodTo (sq fb lb N) (sq fc lc N) N i k) N i k) := fun i k => prod_assoc _ _ _ hX hY hZ N N i k
  have HO : Hid (∀ i, i < N → ∀ k, k < N → prodTo (ones N) (sq fa la N) N i k = sq fa la N i k) := fun i hi k _ => ones_prod _ hX N i k hi
  replace X := X.keep k9
  replace Lm := Lm.keep k9
  replace Rm := Rm.keep k9
  clear hX hY hZ
  go_wp2_with fail
  refine (sameX _ _ N N _ _ _ Lm Rm (fun i _ k _ => HA.out i k) (by omega)).mono ?_
  rintro e w' ⟨rfl, hw⟩
  obtain rfl := hw.symm
  go_wp2_with fail
  refine (sameX _ _ N N _ _ _ Sm X HO.out (by omega)).mono ?_
  rintro e w' ⟨rfl, hw⟩
  obtain rfl := hw.symm
  have kk := (((((k123.trans k4 (fun _ _ e => e)).trans k5 (fun _ _ e => e)).trans k6 (fun _ _ e => e)).trans k7 (fun _ _ e => e)).trans k8 (fun _ _ e => e)).trans k9 (fun _ _ e => e)
  go_wp2_with fail
  go_ret
  exact ⟨rfl, kk⟩
end Go.Proofs.YtolgpepnjinfgabDoor
