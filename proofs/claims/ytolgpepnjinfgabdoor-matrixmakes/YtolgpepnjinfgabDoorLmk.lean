/- The walk of the law MatrixMakes: ones, and the matrix of a code, or the error. -/
import Derived.Test.YtolgpepnjinfgabDoorM13
namespace Go.Proofs.YtolgpepnjinfgabDoor
open Go.RowKit Go.Deep

def okI (n : Int) : Bool := decide (1 ≤ n ∧ n ≤ 255)
def okC (K M : Int) : Bool := decide (1 ≤ K ∧ 0 ≤ M ∧ M ≤ 255 - K)
/-- the error's number -/
def ie (b : Bool) : Int := if b then 0 else 1
/-- a matrix, or nothing -/
def Mo (w : World) (v : Value) (b : Bool) (n m : Nat) (M : Nat → Nat → Nat) : Prop := (b = true ∧ Mx w v n m M) ∨ (b = false ∧ v = .slice none 0 0)
theorem Mo.keep {w w' : World} {v : Value} {b : Bool} {n m : Nat} {M : Nat → Nat → Nat} (h : Mo w v b n m M) (k : Kp (fun _ => False) w w') : Mo w' v b n m M := by
  rcases h with ⟨hb, h⟩ | h
  · exact Or.inl ⟨hb, h.keep k⟩
  · exact Or.inr h
theorem okI_le (n : Int) (h : okI n = true) : n.toNat ≤ 1000000 := by have := of_decide_eq_true h; omega
theorem okC_le (K M : Int) (h : okC K M = true) : K.toNat + M.toNat ≤ 1000000 := by have := of_decide_eq_true h; omega

theorem sameO (a c : Value) (b : Bool) (n m : Nat) (A : Nat → Nat → Nat) (w : World) (ha : Mo w a b n m A) (hc : Mo w c b n m A) (hn : b = true → n ≤ 1000000) :
    Calls Tryd.prog 15 #[a, c] w fun e w' => e = .returned (.bool true) ∧ w' = w := by
  rcases ha with ⟨hb, ha⟩ | ⟨hb, rfl⟩
  · rcases hc with ⟨_, hc⟩ | ⟨hb', _⟩
    · exact sameX a c n m A A w ha hc (fun _ _ _ _ => rfl) (hn hb)
    · rw [hb] at hb'; cases hb'
  · rcases hc with ⟨hb', _⟩ | ⟨_, rfl⟩
    · rw [hb] at hb'; cases hb'
    · exact sameNil w

theorem identityO (n : Int) (w : World) : Calls Tryd.prog 22 #[.int .i64 n] w fun e w' => ∃ v, e = .returned (.tuple #[v, .int .i64 (ie (okI n))]) ∧ Kp (fun _ => False) w w' ∧ Mo w' v (okI n) n.toNat n.toNat (ones n.toNat) := by
  by_cases h : 1 ≤ n ∧ n ≤ 255
  · rw [show okI n = true from decide_eq_true h]
    obtain ⟨N, rfl⟩ := Int.eq_ofNat_of_zero_le (show 0 ≤ n by omega)
    refine (identityX N w (by omega) (by omega)).mono ?_
    rintro e w' ⟨v, rfl, k, hM⟩
    exact ⟨v, rfl, k, Or.inl ⟨rfl, hM⟩⟩
  · rw [show okI n = false from decide_eq_false h]
    refine (identity_no n w (by omega)).mono ?_
    rintro e w' ⟨rfl, rfl⟩
    exact ⟨_, rfl, Kp.refl _ _, Or.inr ⟨rfl, rfl⟩⟩
theorem refIdentityO (n : Int) (w : World) : Calls Tryd.prog 23 #[.int .i64 n] w fun e w' => ∃ v, e = .returned (.tuple #[v, .int .i64 (ie (okI n))]) ∧ Kp (fun _ => False) w w' ∧ Mo w' v (okI n) n.toNat n.toNat (ones n.toNat) := by
  by_cases h : 1 ≤ n ∧ n ≤ 255
  · rw [show okI n = true from decide_eq_true h]
    obtain ⟨N, rfl⟩ := Int.eq_ofNat_of_zero_le (show 0 ≤ n by omega)
    refine (refIdentity_yes N w (by omega) (by omega)).mono ?_
    rintro e w' ⟨v, B, rfl, hG⟩
    obtain ⟨t, cap, rfl, _, hMt⟩ := hG.mt (by omega) (ones_lt N)
    exact ⟨_, rfl, hG.kept, Or.inl ⟨rfl, hMt.mx cap⟩⟩
  · rw [show okI n = false from decide_eq_false h]
    refine (refIdentity_no n w (by omega)).mono ?_
    rintro e w' ⟨rfl, rfl⟩
    exact ⟨_, rfl, Kp.refl _ _, Or.inr ⟨rfl, rfl⟩⟩
theorem generatorO (K M : Int) (w : World) (hw : 1 ≤ K → wrap64 (255 - K) = 255 - K) (hp : Pows w) : Calls Tryd.prog 24 #[.agg #[.int .i64 K, .int .i64 M]] w fun e w' => ∃ v, e = .returned (.tuple #[v, .int .i64 (ie (okC K M))]) ∧ Kp (fun _ => False) w w' ∧ Mo w' v (okC K M) (K.toNat + M.toNat) K.toNat (gen K.toNat) := by
  by_cases h : 1 ≤ K ∧ 0 ≤ M ∧ M ≤ 255 - K
  · rw [show okC K M = true from decide_eq_true h]
    obtain ⟨k, rfl⟩ := Int.eq_ofNat_of_zero_le (show 0 ≤ K by omega)
    obtain ⟨m, rfl⟩ := Int.eq_ofNat_of_zero_le h.2.1
    refine (generator_yes k m w (by omega) (by omega) hp).mono ?_
    rintro e w' ⟨t, B, rfl, k1, hM⟩
    exact ⟨_, rfl, k1, Or.inl ⟨rfl, hM.mx⟩⟩
  · rw [show okC K M = false from decide_eq_false h]
    refine (generator_no K M w hw h).mono ?_
    rintro e w' ⟨rfl, k1⟩
    exact ⟨_, rfl, k1, Or.inr ⟨rfl, rfl⟩⟩
theorem refGeneratorO (K M : Int) (w : World) : Calls Tryd.prog 25 #[.agg #[.int .i64 K, .int .i64 M]] w fun e w' => ∃ v, e = .returned (.tuple #[v, .int .i64 (ie (okC K M))]) ∧ Kp (fun _ => False) w w' ∧ Mo w' v (okC K M) (K.toNat + M.toNat) K.toNat (gen K.toNat) := by
  by_cases h : 1 ≤ K ∧ 0 ≤ M ∧ M ≤ 255 - K
  · rw [show okC K M = true from decide_eq_true h]
    obtain ⟨k, rfl⟩ := Int.eq_ofNat_of_zero_le (show 0 ≤ K by omega)
    obtain ⟨m, rfl⟩ := Int.eq_ofNat_of_zero_le h.2.1
    refine (refGenerator_yes k m w (by omega) (by omega)).mono ?_
    rintro e w' ⟨v, rfl, k1, hM⟩
    exact ⟨v, rfl, k1, Or.inl ⟨rfl, hM⟩⟩
  · rw [show okC K M = false from decide_eq_false h]
    refine (refGenerator_no K M w h).mono ?_
    rintro e w' ⟨rfl, k1⟩
    exact ⟨_, rfl, k1, Or.inr ⟨rfl, rfl⟩⟩

set_option maxRecDepth 100000 in
set_option maxHeartbeats 1600000 in
theorem makes_few (n K M : Int) (w : World) (hp : Pows w) (hw : 1 ≤ K → wrap64 (255 - K) = 255 - K) (hn : n ≤ 300) :
    Calls Tryd.prog 5 #[.int .i64 n, .agg #[.int .i64 K, .int .i64 M]] w fun e w' => e = .returned (.bool true) ∧ Kp (fun _ => False) w w' := by
  have HW : Hid (1 ≤ K → wrap64 (255 - K) = 255 - K) := hw
  clear hw
  go_enter Tryd.func5, Tryd.ntmps5
  go_wp2_with fail
  obtain ⟨wa, hwa⟩ : ∃ x, x = w.alloc (.cells #[.int .i64 K, .int .i64 M] 38) := ⟨_, rfl⟩
  have q1 : wa.cell? ⟨w.heap.size, 0, none⟩ = some (.int .i64 K) := by rw [hwa]; go_simp
  have q2 : wa.cell? ⟨w.heap.size, 1, none⟩ = some (.int .i64 M) := by rw [hwa]; go_simp
  have k0 : Kp (fun _ => False) w wa := by rw [hwa]; exact (Kp.refl _ _).alloc _
  rw [← hwa]
  refine (identityO n wa).mono ?_
  rintro e w1 ⟨v1, rfl, k1, m1⟩
  clear hwa
  go_wp2_with fail
  refine (refIdentityO n w1).mono ?_
  rintro e w2 ⟨v2, rfl, k2, m2⟩
  have r1 := k2.cellv (k1.cellv q1 id) id
  have r2 := k2.cellv (k1.cellv q2 id) id
  have hp2 := k2.pows (k1.pows (k0.pows hp id) id) id
  go_wp2_with fail
  refine (generatorO K M w2 HW.out hp2).mono ?_
  rintro e w3 ⟨v3, rfl, k3, m3⟩
  have s1 := k3.cellv r1 id
  have s2 := k3.cellv r2 id
  clear r1 r2 q1 q2
  go_wp2_with fail
  refine (refGeneratorO K M w3).mono ?_
  rintro e w4 ⟨v4, rfl, k4, m4⟩
  have M1 := ((m1.keep k2).keep k3).keep k4
  have M2 := (m2.keep k3).keep k4
  have M3 := m3.keep k4
  have hp4 := k4.pows (k3.pows hp2 id) id
  have kk := (((k0.trans k1 (fun _ _ e => e)).trans k2 (fun _ _ e => e)).trans k3 (fun _ _ e => e)).trans k4 (fun _ _ e => e)
  have e1 : (ie (okI n) == ie (okI n)) = true := beq_self_eq_true _
  have e2 : (ie (okC K M) == ie (okC K M)) = true := beq_self_eq_true _
  clear s1 s2 m1 m2 m3 k0 k1 k2 k3 k4
  go_wp2_with fail
  refine (sameO _ _ _ _ _ _ _ M1 M2 (okI_le _)).mono ?_
  rintro e w' ⟨rfl, hw'⟩
  obtain rfl := hw'.symm
  go_wp2_with fail
  refine (sameO _ _ _ _ _ _ _ M3 m4 (okC_le _ _)).mono ?_
  rintro e w' ⟨rfl, hw'⟩
  obtain rfl := hw'.symm
  go_wp2_with fail
  refine (awake_any w4 hp4).mono ?_
  rintro e w5 ⟨rfl, k5⟩
  have kz := kk.trans k5 (fun _ _ e => e)
  go_wp2
  go_ret
  exact ⟨rfl, kz⟩

set_option maxRecDepth 100000 in
set_option maxHeartbeats 1600000 in
theorem makes_many (n K M : Int) (w : World) (hp : Pows w) (hw : 1 ≤ K → wrap64 (255 - K) = 255 - K) (hn : 300 < n) :
    Calls Tryd.prog 5 #[.int .i64 n, .agg #[.int .i64 K, .int .i64 M]] w fun e w' => e = .returned (.bool true) ∧ Kp (fun _ => False) w w' := by
  have HW : Hid (1 ≤ K → wrap64 (255 - K) = 255 - K) := hw
  clear hw
  go_enter Tryd.func5, Tryd.ntmps5
  go_wp2_with fail
  obtain ⟨wa, hwa⟩ : ∃ x, x = w.alloc (.cells #[.int .i64 K, .int .i64 M] 38) := ⟨_, rfl⟩
  have q1 : wa.cell? ⟨w.heap.size, 0, none⟩ = some (.int .i64 K) := by rw [hwa]; go_simp
  have q2 : wa.cell? ⟨w.heap.size, 1, none⟩ = some (.int .i64 M) := by rw [hwa]; go_simp
  have k0 : Kp (fun _ => False) w wa := by rw [hwa]; exact (Kp.refl _ _).alloc _
  rw [← hwa]
  refine (identityO 300 wa).mono ?_
  rintro e w1 ⟨v1, rfl, k1, m1⟩
  clear hwa
  go_wp2_with fail
  refine (refIdentityO 300 w1).mono ?_
  rintro e w2 ⟨v2, rfl, k2, m2⟩
  have r1 := k2.cellv (k1.cellv q1 id) id
  have r2 := k2.cellv (k1.cellv q2 id) id
  have hp2 := k2.pows (k1.pows (k0.pows hp id) id) id
  go_wp2_with fail
  refine (generatorO K M w2 HW.out hp2).mono ?_
  rintro e w3 ⟨v3, rfl, k3, m3⟩
  have s1 := k3.cellv r1 id
  have s2 := k3.cellv r2 id
  clear r1 r2 q1 q2
  go_wp2_with fail
  refine (refGeneratorO K M w3).mono ?_
  rintro e w4 ⟨v4, rfl, k4, m4⟩
  have M1 := ((m1.keep k2).keep k3).keep k4
  have M2 := (m2.keep k3).keep k4
  have M3 := m3.keep k4
  have hp4 := k4.pows (k3.pows hp2 id) id
  have kk := (((k0.trans k1 (fun _ _ e => e)).trans k2 (fun _ _ e => e)).trans k3 (fun _ _ e => e)).trans k4 (fun _ _ e => e)
  have e1 : (ie (okI 300) == ie (okI 300)) = true := beq_self_eq_true _
  have e2 : (ie (okC K M) == ie (okC K M)) = true := beq_self_eq_true _
  clear s1 s2 m1 m2 m3 k0 k1 k2 k3 k4
  go_wp2_with fail
  refine (sameO _ _ _ _ _ _ _ M1 M2 (okI_le _)).mono ?_
  rintro e w' ⟨rfl, hw'⟩
  obtain rfl := hw'.symm
  go_wp2_with fail
  refine (sameO _ _ _ _ _ _ _ M3 m4 (okC_le _ _)).mono ?_
  rintro e w' ⟨rfl, hw'⟩
  obtain rfl := hw'.symm
  go_wp2_with fail
  refine (awake_any w4 hp4).mono ?_
  rintro e w5 ⟨rfl, k5⟩
  have kz := kk.trans k5 (fun _ _ e => e)
  go_wp2
  go_ret
  exact ⟨rfl, kz⟩

end Go.Proofs.YtolgpepnjinfgabDoor
