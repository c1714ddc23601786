/- The walk of the law ReedTurned: with a byte of one shard turned they are not right, if there are more than the data. -/
import Derived.Test.YtkhgaigipfolaaaDoorMa
import Derived.Test.YtkhgaigipfolaaaDoorR4
namespace Go.Proofs.YtkhgaigipfolaaaDoor
open Go.RowKit Go.Deep

def modOf (x : Int) (n : Nat) : Nat := ((x % 18446744073709551616) % n).toNat
theorem modOf_lt (x : Int) {n : Nat} (h : 1 ≤ n) : modOf x n < n := by
  unfold modOf
  have h1 := Int.emod_nonneg (x % 18446744073709551616) (show (n : Int) ≠ 0 by omega)
  have h2 := Int.emod_lt_of_pos (x % 18446744073709551616) (show (0 : Int) < n by omega)
  omega
theorem modOf_eq (x : Int) {n : Nat} (h : 1 ≤ n) (_h2 : n ≤ 1000) : wrap64 ((IntKind.u64.wrap x).tmod (n : Int)) = (modOf x n : Int) := by
  rw [u64_wrap, Int.tmod_eq_emod_of_nonneg (by omega)]
  have h1 := Int.emod_nonneg (x % 18446744073709551616) (show (n : Int) ≠ 0 by omega)
  have h2 := Int.emod_lt_of_pos (x % 18446744073709551616) (show (0 : Int) < n by omega)
  unfold wrap64 modOf; omega
def byOf (x : Int) : Nat := 1 + ((x % 18446744073709551616) % 255).toNat
theorem byOf_bd (x : Int) : 1 ≤ byOf x ∧ byOf x < 256 := by unfold byOf; omega
theorem byOf_eq (x : Int) : IntKind.u8.wrap (IntKind.u64.wrap (1 + (IntKind.u64.wrap x).tmod 255)) = (byOf x : Int) := by
  rw [u64_wrap, u64_wrap, Int.tmod_eq_emod_of_nonneg (by omega), IntKind.wrap_u8']
  unfold byOf; omega
/-- a matrix of which one byte is turned -/
theorem Mat.setByte {w : World} {t : Nat} {B : Nat → Nat} {R C : Nat} {M : Nat → Nat → Nat} (h : Mat w t B R C M) {i : Nat} (hi : i < R) (j x : Nat) (hx : x < 256) :
    Mat (w.setCell ⟨B i, j, none⟩ (.int .u8 ((x : Nat) : Int))) t B R C (fun i' j' => if i' = i ∧ j' = j then x else M i' j') := by
  refine ⟨h.top.setOther (by show t ≠ B i; exact fun e => h.ne i hi e.symm) _, fun q hq => ?_, h.inj, h.ne, fun i' j' => ?_⟩
  · by_cases e : q = i
    · subst e
      refine ((h.row q hq).set j _).congr (fun c _ => ?_)
      by_cases e2 : c = j <;> simp [By, e2]
    · refine ((h.row q hq).setOther (by show B q ≠ B i; exact fun e' => e (h.inj q i hq hi e')) _).congr (fun c _ => ?_)
      simp [By, e]
  · split
    · exact hx
    · exact h.byte _ _
theorem Mat.drew {w : World} {t : Nat} {B : Nat → Nat} {R C : Nat} {M : Nat → Nat → Nat} (h : Mat w t B R C M) : Mat w.drew t B R C M := ⟨h.top, h.row, h.inj, h.ne, h.byte⟩
/-- a code word with one byte turned is none, if there are more than the data -/
theorem turned_not {K M N : Nat} {D : Nat → Nat → Nat} (hD : ∀ i j, D i j < 256) (hKM : K + M ≤ 255) {i p v : Nat} (hi : i < K + M) (hp : p < N) (hv : v < 256) (v0 : v ≠ 0) (hM : M ≠ 0) :
    ¬ ∀ q, q < K + M → ∀ c, c < N → enc K (fun i' j' => if i' = i ∧ j' = p then enc K D i p ^^^ v else enc K D i' j') q c = (fun i' j' => if i' = i ∧ j' = p then enc K D i p ^^^ v else enc K D i' j') q c := by
  intro h
  by_cases hiK : i < K
  · have e := h K (by omega) p hp
    dsimp only at e
    rw [if_neg (by omega)] at e
    have e2 : enc K (fun i' j' => if i' = i ∧ j' = p then enc K D i p ^^^ v else enc K D i' j') K p ≠ enc K D K p := by
      refine enc_turned (k := i) (v := v) hiK hv v0 ?_ (fun j hj hji => ?_) (Nat.le_refl K) (by omega)
      · simp only [and_self, if_true]; rw [enc_data hD hiK]
      · rw [if_neg (by omega)]; exact enc_data hD hj p
    exact e2 e
  · have e := h i hi p hp
    simp only [and_self, if_true] at e
    rw [enc_congr (D' := D) (p' := p) (fun j hj => by rw [if_neg (by omega)]; exact enc_data hD hj p)] at e
    exact v0 (xor_eq_self e.symm)

set_option maxRecDepth 100000 in
set_option maxHeartbeats 3200000 in
theorem turned_walk (k m n : Int) (a : Value) (la : Nat) (f : Nat → Nat) (x y z : Int) (w : World) (ha : Bs w a la f) (hp : Pows w) :
    Calls Tryd.prog 5 #[.int .i64 k, .int .i64 m, .int .i64 n, a, .int .i64 x, .int .i64 y, .int .i64 z] w fun e w' => e = .returned (.bool true) ∧ Kp (fun _ => False) w w' := by
  obtain ⟨K, M, N, ⟨b1, b2, b3, n1, n2⟩, hmade⟩ := madeX k m n
  obtain ⟨D, hD', hcall⟩ := hmade a la f w ha hp
  have HD : Hid (Calls _ _ _ w _) := hcall
  have hD : Hid (∀ i j, D i j < 256) := hD'
  clear hmade hcall hD'
  obtain ⟨pa, ba, oa, ca, rfl, hpa, hc, hf⟩ := ha
  clear hpa hc hf
  have hKM1 : 1 ≤ K + M := by omega
  have HX : Hid (wrap64 ((IntKind.u64.wrap x).tmod ((K : Int) + (M : Int))) = (modOf x (K + M) : Int)) := by
    have := modOf_eq x hKM1 (by omega)
    rw [show ((K + M : Nat) : Int) = (K : Int) + (M : Int) from by simp] at this
    exact this
  have HY : Hid (_ = _) := modOf_eq y n1 (by omega)
  have HZ : Hid (_ = _) := byOf_eq z
  obtain ⟨v1, v2⟩ := byOf_bd z
  have x2 := modOf_lt x hKM1
  have y2 := modOf_lt y n1
  go_enter Tryd.func5, Tryd.ntmps5
  go_wp2_with fail
  refine HD.out.mono ?_
  rintro e w1 ⟨t, B, rfl, k1, ht, hB, hM⟩
  clear HD
  obtain ⟨wa, hwa, ka, za, q1, q2⟩ := code_alloc w1 K M
  have k1a := k1.trans ka (fun _ _ e => e)
  have hMa := hM.keep ka id (fun _ _ => id)
  have hnn1 := not_nil ⟨t, 0, none⟩ (K + M) (K + M)
  have HR : Hid (Calls _ _ _ wa _) := right_all K M N (ofMat t B (K + M) N (enc K D)) wa hMa.rd rfl (fun _ _ => rfl) (by omega) (by omega) (k1a.pows hp id) (by omega) (by omega) (by show (K : Int) ≤ ((K + M : Nat) : Int); omega) true (fun _ i hi p hp => enc_congr (fun j hj => enc_data hD.out hj p) i) (fun h => by cases h)
  go_wp2_with fail
  rw [← hwa]
  clear hwa hnn1
  refine HR.out.mono ?_
  rintro e w2 ⟨rfl, k2⟩
  clear HR
  have r1 := k2.cellv q1 id
  have r2 := k2.cellv q2 id
  have hM2 := hMa.keep k2 id (fun _ _ => id)
  have k12 := k1a.trans k2 (fun _ _ e => e)
  have hBl : ∀ i, i < K + M → B i < w1.heap.size := fun i hi => (hM.row i hi).lt
  clear q1 q2 hM hMa
  have hw1 : IntKind.u64.wrap ((K : Int) + (M : Int)) = (K : Int) + (M : Int) := by rw [u64_wrap]; omega
  have hw2 : (((K : Int) + (M : Int)) == 0) = false := beq_eq_false_iff_ne.2 (by omega)
  go_wp2
  rw [HX.out]
  clear HX hw1 hw2
  have hy := HY.out
  have hz := HZ.out
  clear HY HZ
  generalize modOf x (K + M) = I at *
  generalize modOf y N = J at *
  generalize byOf z = V at *
  have e1 := hM2.top.cell (i := I) x2
  have e2 := (hM2.row I x2).cell (i := J) y2
  have e3 := (hM2.row I x2).frozen J
  simp only [By] at e2
  have hx := u8_xor_cast (enc K D I J) V (by have := enc_lt K D I J; omega) (by omega)
  have i1 : (I : Int) < (K : Int) + (M : Int) := by omega
  have i2 : (J : Int) < (N : Int) := by omega
  have hNz : ((N : Int) == 0) = false := beq_eq_false_iff_ne.2 (by omega)
  go_region
  all_goals
    obtain ⟨w3, hw3⟩ : ∃ y, y = (w2.setCell ⟨B I, J, none⟩ (.int .u8 ((enc K D I J ^^^ V : Nat) : Int))).drew := ⟨_, rfl⟩
    rw [← hw3]
    have k3 : Kp (fun b => b = B I) w2 w3 := by rw [hw3]; exact ((Kp.refl (fun b => b = B I) w2).setCell (a := ⟨B I, J, none⟩) (fun _ => rfl) _).drew
    have hM3 : Mat w3 t B (K + M) N (fun i' j' => if i' = I ∧ j' = J then enc K D I J ^^^ V else enc K D i' j') := by rw [hw3]; exact (hM2.setByte x2 J (enc K D I J ^^^ V) (xor8 (enc_lt _ _ _ _) v2)).drew
    have hBI := hB I x2
    have hne : w1.heap.size ≠ B I := fun e => by
      have := hBl I x2
      omega
    have c1 := k3.cellv r1 hne
    have c2 := k3.cellv r2 hne
    have kw3 : Kp (fun _ => False) w w3 := k12.trans k3 (fun b hb e => by omega)
    have HR : Hid (∀ w', Kp (fun _ => False) w3 w' → ∀ b : Bool, (b = true → M = 0) → (b = false → M ≠ 0) → Calls _ _ _ w' _) := fun w' k' b hb1 hb2 => right_all K M N (ofMat t B (K + M) N _) w' (hM3.keep k' id (fun _ _ => id)).rd rfl (fun _ _ => rfl) (by omega) (by omega) (k'.pows (kw3.pows hp id) id) (by omega) (by omega) (by show (K : Int) ≤ ((K + M : Nat) : Int); omega) b
      (fun h i hi p _ => enc_data hM3.byte (by have := hb1 h; omega) p) (fun h => turned_not hD.out (by omega) x2 y2 v2 (by omega) (hb2 h))
    clear hw3 e1 e2 e3 hx hy hz hNz i1 i2 hM2 hM3
    by_cases hM0 : M = 0
    · have HR0 : Hid (∀ w', Kp (fun _ => False) w3 w' → Calls _ _ _ w' _) := fun w' k' => HR.out w' k' true (fun _ => hM0) (fun h => by cases h)
      have d0 : ((M : Int) == 0) = true := by rw [hM0]; rfl
      clear HR hM0
      go_wp2
      go_region_with (go_at_call 12; refine (HR0.out _ (by exact ⟨rfl, rfl, rfl, Nat.le_refl _, fun _ _ _ => rfl⟩)).mono ?_; rintro e w4 ⟨rfl, k4⟩; have c3 := k4.cellv (show World.cell? _ ⟨w1.heap.size, 1, none⟩ = some (.int .i64 (M : Int)) from c2) id)
      all_goals
        have kw4 := (kw3.drew).trans k4 (fun _ _ e => e)
        go_wp2
        go_ret
        exact ⟨rfl, kw4⟩
    · have HR0 : Hid (∀ w', Kp (fun _ => False) w3 w' → Calls _ _ _ w' _) := fun w' k' => HR.out w' k' false (fun h => by cases h) (fun _ => hM0)
      have d0 : ((M : Int) == 0) = false := beq_eq_false_iff_ne.2 (by omega)
      clear HR hM0
      go_wp2
      go_region_with (go_at_call 12; refine (HR0.out _ (by exact ⟨rfl, rfl, rfl, Nat.le_refl _, fun _ _ _ => rfl⟩)).mono ?_; rintro e w4 ⟨rfl, k4⟩; have c3 := k4.cellv (show World.cell? _ ⟨w1.heap.size, 1, none⟩ = some (.int .i64 (M : Int)) from c2) id)
      all_goals
        have kw4 := (kw3.drew).trans k4 (fun _ _ e => e)
        go_wp2
        go_ret
        exact ⟨rfl, kw4⟩
end Go.Proofs.YtkhgaigipfolaaaDoor
