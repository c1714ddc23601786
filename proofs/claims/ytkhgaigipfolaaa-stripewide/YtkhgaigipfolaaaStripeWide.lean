/- PROVED: for every input the law StripeWide answers true, and its arguments read as before: shards are as long as it takes, and no longer. Conditions: none. -/
import Derived.Test.YtkhgaigipfolaaaRows
import Derived.WalkKit
import Derived.ProofKit
import Derived.OpenShut
import Derived.Below
import Derived.Stop.Joined
namespace Go.Proofs.Ytkhgaigipfolaaa.stripeWideDone
open Go.ChangeShapes Go.WideShapes Go.ChangeAt Go.RowKit
set_option linter.unusedVariables false      -- a walk need not use every 'w<i>' (that an integer argument fits its kind)

theorem own : ownKnob Try.prog.godebug = none := by kernel_rfl

/-! ### The plain part: how long shards are. -/
def kk (n : Int) : Nat := 1 + ((n % 18446744073709551616) % 12).toNat
def mm (n : Int) : Nat := ((n % 18446744073709551616) % 6).toNat
def ss (n : Int) : Nat := ((n % 18446744073709551616) % 401).toNat
theorem kk_bd (n : Int) : 1 ≤ kk n ∧ kk n ≤ 12 := by unfold kk; omega
theorem mm_bd (n : Int) : mm n ≤ 5 := by unfold mm; omega
theorem ss_bd (n : Int) : ss n ≤ 400 := by unfold ss; omega
theorem u64_wrap (n : Int) : IntKind.u64.wrap n = n % 18446744073709551616 := by simp [IntKind.wrap, IntKind.bits, IntKind.signed]
theorem kk_eq (n : Int) : wrap64 (1 + wrap64 ((IntKind.u64.wrap n).tmod 12)) = (kk n : Int) := by
  rw [u64_wrap, Int.tmod_eq_emod_of_nonneg (by omega)]
  unfold wrap64 kk; omega
theorem mm_eq (n : Int) : wrap64 ((IntKind.u64.wrap n).tmod 6) = (mm n : Int) := by
  rw [u64_wrap, Int.tmod_eq_emod_of_nonneg (by omega)]
  unfold wrap64 mm; omega
theorem ss_eq (n : Int) : wrap64 ((IntKind.u64.wrap n).tmod 401) = (ss n : Int) := by
  rw [u64_wrap, Int.tmod_eq_emod_of_nonneg (by omega)]
  unfold wrap64 ss; omega
/-- how many stripes a blob of S bytes has -/
def stripesOf (K S : Nat) : Nat := max 1 ((S + K * 8 - 1) / (K * 8))
def lenOf (K S : Nat) : Nat := stripesOf K S * 8
theorem quot_eq {K S : Nat} (hK : 1 ≤ K) : ((S : Int) + (K : Int) * 8 - 1).tdiv ((K : Int) * 8) = (((S + K * 8 - 1) / (K * 8) : Nat) : Int) := by
  rw [show (S : Int) + (K : Int) * 8 - 1 = ((S + K * 8 - 1 : Nat) : Int) from by omega, show (K : Int) * 8 = ((K * 8 : Nat) : Int) from by omega]
  rfl
theorem quot_le {K S : Nat} (hK : 1 ≤ K) (hs : S ≤ 400) : (S + K * 8 - 1) / (K * 8) ≤ 50 := by
  have h : (S + K * 8 - 1) / (K * 8) * (K * 8) ≤ S + K * 8 - 1 := Nat.div_mul_le_self _ _
  generalize (S + K * 8 - 1) / (K * 8) = q at h
  rcases Nat.lt_or_ge 50 q with hq | hq
  · have : 51 * (K * 8) ≤ q * (K * 8) := Nat.mul_le_mul_right _ hq
    omega
  · exact hq
theorem enough {K S : Nat} (hK : 1 ≤ K) : S ≤ stripesOf K S * 8 * K := by
  have h1 := Nat.div_add_mod (S + K * 8 - 1) (K * 8)
  have h2 := Nat.mod_lt (S + K * 8 - 1) (show 0 < K * 8 by omega)
  have h3 : K * 8 * ((S + K * 8 - 1) / (K * 8)) ≤ stripesOf K S * 8 * K := by
    have : (S + K * 8 - 1) / (K * 8) * (K * 8) ≤ stripesOf K S * (K * 8) := Nat.mul_le_mul_right _ (by unfold stripesOf; omega)
    rw [Nat.mul_comm (K * 8), Nat.mul_assoc, Nat.mul_comm 8 K]
    exact this
  omega
theorem no_longer {K S : Nat} (hK : 1 ≤ K) : (stripesOf K S * 8 - 8) * K < max S 1 := by
  have e : (stripesOf K S * 8 - 8) * K = (stripesOf K S - 1) * (K * 8) := by
    rw [show stripesOf K S * 8 - 8 = (stripesOf K S - 1) * 8 from by omega, Nat.mul_assoc, Nat.mul_comm 8 K]
  rw [e]
  have h : (S + K * 8 - 1) / (K * 8) * (K * 8) ≤ S + K * 8 - 1 := Nat.div_mul_le_self _ _
  by_cases hq : (S + K * 8 - 1) / (K * 8) ≤ 1
  · rw [show stripesOf K S = 1 from by unfold stripesOf; omega]
    simp
    omega
  · rw [show stripesOf K S = (S + K * 8 - 1) / (K * 8) from by unfold stripesOf; omega, Nat.sub_mul]
    omega

/-! ### The walks. -/
set_option maxRecDepth 100000 in
theorem can_yes (K M : Int) (w : World) (h1 : 1 ≤ K) (h2 : 0 ≤ M) (h3 : M ≤ 255 - K) :
    Calls Try.prog 6 #[.agg #[.int .i64 K, .int .i64 M]] w fun e w' => e = .returned (.bool true) ∧ Below w.heap.size w w' := by
  have d1 : decide (1 ≤ K) = true := by simp; omega
  have d2 : decide (0 ≤ M) = true := by simp; omega
  have d3 : decide (M ≤ 255 - K) = true := by simp; omega
  go_enter Try.func6, Try.ntmps6
  go_wp2
  go_ret
  exact ⟨rfl, (Below.refl _ _).alloc (Nat.le_refl _) _⟩

set_option maxRecDepth 100000 in
theorem code_any (k m : Int) (w : World) : Calls Try.prog 4 #[.int .i64 k, .int .i64 m] w fun e w' => e = .returned (.agg #[.int .i64 (kk k : Int), .int .i64 (mm m : Int)]) ∧ Below w.heap.size w w' := by
  have HK : Hid (_ = _) := kk_eq k
  have HM : Hid (_ = _) := mm_eq m
  go_enter Try.func4, Try.ntmps4
  go_wp2
  rw [HK.out, HM.out]
  refine bodyPost_ret (v := .agg #[.int .i64 (kk k : Int), .int .i64 (mm m : Int)]) (by simp [results, Try.results4, go_sem]) rfl ?_
  exact ⟨rfl, (Below.refl _ _).alloc (Nat.le_refl _) _⟩

set_option maxRecDepth 100000 in
set_option maxHeartbeats 1600000 in
theorem length_yes (K M S : Nat) (w : World) (h1 : 1 ≤ (K : Int)) (h3 : (M : Int) ≤ 255 - (K : Int)) (hs : (S : Int) ≤ 400) :
    Calls Try.prog 5 #[.agg #[.int .i64 K, .int .i64 M], .int .i64 S] w fun e w' => e = .returned (.int .i64 (lenOf K S : Int)) ∧ Below w.heap.size w w' := by
  have HC : Hid (∀ w, Calls _ _ _ w _) := fun w => can_yes K M w h1 (by omega) h3
  have hq := quot_eq (K := K) (S := S) (by omega)
  have hq2 := quot_le (K := K) (S := S) (by omega) (by omega)
  have HL : Hid (lenOf K S = max 1 ((S + K * 8 - 1) / (K * 8)) * 8) := rfl
  generalize (S + K * 8 - 1) / (K * 8) = Q at *
  have d1 : decide (400 < (S : Int)) = false := by simp; omega
  have d2 : ((K : Int) * 8 == 0) = false := beq_eq_false_iff_ne.2 (by omega)
  obtain ⟨wa, hwa⟩ : ∃ x, x = w.alloc (.cells #[.int .i64 (K : Int), .int .i64 (M : Int)] 23) := ⟨_, rfl⟩
  have q1 : wa.cell? ⟨w.heap.size, 0, none⟩ = some (.int .i64 (K : Int)) := by rw [hwa]; go_simp
  have hg : Below w.heap.size w wa := by rw [hwa]; exact (Below.refl _ _).alloc (Nat.le_refl _) _
  have hbl : w.heap.size < wa.heap.size := by rw [hwa]; simp
  go_enter Try.func5, Try.ntmps5
  go_wp2_with fail
  rw [← hwa]
  refine (HC.out _).mono ?_
  rintro e w1 ⟨rfl, k1⟩
  have r1 : w1.cell? ⟨w.heap.size, 0, none⟩ = some (.int .i64 (K : Int)) := by rw [k1.cell (by exact hbl)]; exact q1
  have kw : Below w.heap.size w w1 := hg.trans (k1.mono hg.size)
  clear hwa
  go_wp2
  · go_ret
    exact ⟨by rw [show (lenOf K S : Int) = (Q : Int) * 8 from by rw [HL.out]; omega]; rfl, kw⟩
  · go_ret
    exact ⟨by rw [show (lenOf K S : Int) = 8 from by rw [HL.out]; omega]; rfl, kw⟩

set_option maxRecDepth 100000 in
set_option maxHeartbeats 1600000 in
theorem walk (a0 : Int) (a1 : Int) (a2 : Int) (w0 : (Lit.int .i64 a0).wf = true) (w1 : (Lit.int .i64 a1).wf = true) (w2 : (Lit.int .i64 a2).wf = true) (w : World) :
    Calls Try.prog 3 #[.int .i64 a0, .int .i64 a1, .int .i64 a2] w fun e w' => e = .returned (.bool true) ∧ Below w.heap.size w w' := by
  have HC : Hid (Calls _ _ _ w _) := code_any a0 a1 w
  obtain ⟨b1, b2⟩ := kk_bd a0
  have b3 := mm_bd a1
  have b4 := ss_bd a2
  have HS : Hid (_ = _) := ss_eq a2
  generalize kk a0 = K at *
  generalize mm a1 = M at *
  generalize ss a2 = S at *
  go_enter Try.func3, Try.ntmps3
  go_wp2_with fail
  refine HC.out.mono ?_
  rintro e w1 ⟨rfl, k1⟩
  obtain ⟨wa, hwa⟩ : ∃ x, x = w1.alloc (.cells #[.int .i64 (K : Int), .int .i64 (M : Int)] 23) := ⟨_, rfl⟩
  have q1 : wa.cell? ⟨w1.heap.size, 0, none⟩ = some (.int .i64 (K : Int)) := by rw [hwa]; go_simp
  have hg : Below w1.heap.size w1 wa := by rw [hwa]; exact (Below.refl _ _).alloc (Nat.le_refl _) _
  have hbl : w1.heap.size < wa.heap.size := by rw [hwa]; simp
  have HL : Hid (Calls _ _ _ wa _) := length_yes K M S wa (by omega) (by omega) (by omega)
  clear HC
  go_wp2_with fail
  rw [HS.out, ← hwa]
  clear hwa HS
  refine HL.out.mono ?_
  rintro e w2 ⟨rfl, k2⟩
  have r1 : w2.cell? ⟨w1.heap.size, 0, none⟩ = some (.int .i64 (K : Int)) := by rw [k2.cell (by exact hbl)]; exact q1
  have kw : Below w.heap.size w w2 := (k1.trans (hg.mono k1.size)).trans (k2.mono (Nat.le_trans k1.size hg.size))
  have e1 := enough (K := K) (S := S) b1
  have e2 := no_longer (K := K) (S := S) b1
  have hst : 1 ≤ stripesOf K S := by unfold stripesOf; omega
  have hst2 : stripesOf K S ≤ 50 := by have := quot_le (K := K) (S := S) b1 b4; unfold stripesOf; omega
  obtain ⟨N, hN⟩ : ∃ x, x = lenOf K S := ⟨_, rfl⟩
  rw [← hN]
  unfold lenOf at hN
  rw [← hN] at e1 e2
  have m1 : (N : Int) % 8 = 0 := by omega
  have m2 : (N : Int).tmod 8 = 0 := by rw [Int.tmod_eq_emod_of_nonneg (by omega)]; exact m1
  obtain ⟨P1, hP1⟩ : ∃ x, x = N * K := ⟨_, rfl⟩
  obtain ⟨P2, hP2⟩ : ∃ x, x = (N - 8) * K := ⟨_, rfl⟩
  have p1 : (N : Int) * (K : Int) = (P1 : Int) := by rw [hP1]; simp
  have p2 : ((N : Int) - 8) * (K : Int) = (P2 : Int) := by rw [hP2, show (N : Int) - 8 = ((N - 8 : Nat) : Int) from by omega]; simp
  have l1 : P1 ≤ 400 * 12 := by rw [hP1]; exact Nat.mul_le_mul (by omega) b2
  rw [← hP1] at e1
  rw [← hP2] at e2
  have hN1 : 8 ≤ N := by omega
  have hN2 : N ≤ 400 := by omega
  have z1 : decide ((S : Int) ≤ (P1 : Int)) = true := by simp; omega
  have z2 : decide (0 < (N : Int)) = true := by simp; omega
  clear hN hP1 hP2 HL q1 hst hst2
  by_cases hS0 : (S : Int) < 1
  · have z3 : decide ((P2 : Int) < 1) = true := by simp; omega
    go_wp2
    all_goals go_ret
    all_goals exact ⟨rfl, kw⟩
  · have z3 : decide ((P2 : Int) < (S : Int)) = true := by simp; omega
    have z4 : decide (P2 < S) = true := by simp; omega
    go_wp2
    all_goals go_ret
    all_goals exact ⟨rfl, kw⟩

/-! ### THE ROW's STEP: WRITTEN OUT: LEAVE IT -/
set_option maxRecDepth 100000 in
theorem lifted (os : Os) (started : os.Started) (H : Type) (enc : TypeId × Value → H) :
    ReturnsInHanded {} Try.checked os 3 .any (Rows.stripeWideSpec.pre6 enc Try.prog Try.f3 Rows.stripeWideRow.domain false) (Rows.stripeWideSpec.post enc Try.prog Try.f3 false true false false) := by
  refine returnsInHanded_of_change (C := Try.checked) own started (by kernel_rfl) Try.func3
    (ChangeSpec.witness6 (enc := enc) (C := Try.checked) false ⟨#[], #[.int .i64 0, .int .i64 0, .int .i64 0], []⟩ 8 (by kernel_rfl) (by kernel_rfl) (by kernel_rfl) (by kernel_rfl)) ?_
  intro W base args ds gs before hval0 hW hcnd _
  have hval : ∀ (j : Nat) t v, Try.f3.params[j]? = some t → args[j]? = some v → Value.okWide Try.prog W .any base t v := hval0
  have hW' := hW
  obtain ⟨p, q, hA0, hV, rfl, hfz, hnd⟩ := hW
  have hA : DataW.TrodAll enc Try.prog W 0 (fun _ => true) true Try.f3.params.toList args.toList ds p := hA0
  rw [Try.params3] at hA hval
  obtain ⟨v0, vs0, d0, ds0, p0, q0, hargs, rfl, rfl, h0, r0⟩ := trodAll_cons hA
  obtain ⟨v1, vs1, d1, ds1, p1, q1, rfl, rfl, rfl, h1, r1⟩ := trodAll_cons r0
  obtain ⟨v2, vs2, d2, ds2, p2, q2, rfl, rfl, rfl, h2, r2⟩ := trodAll_cons r1
  obtain ⟨rfl, rfl, rfl⟩ := trodAll_nil r2
  obtain rfl : args = #[v0, v1, v2] := by cases args; simp_all
  obtain ⟨rfl, rfl⟩ := trodVars_none hV
  obtain ⟨a0, rfl, rfl, rfl, w0⟩ := open_int Try.underlying3 (hval 0 3 v0 rfl rfl) h0
  obtain ⟨a1, rfl, rfl, rfl, w1⟩ := open_int Try.underlying3 (hval 1 3 v1 rfl rfl) h1
  obtain ⟨a2, rfl, rfl, rfl, w2⟩ := open_int Try.underlying3 (hval 2 3 v2 rfl rfl) h2
  clear hA0 hval0
  simp only [List.append_nil] at hW'
  refine (walk a0 a1 a2 w0 w1 w2 W).mono fun e W' ⟨he, hg⟩ => ?_
  subst he
  exact ⟨_, rfl, _, _, _, [], _, [], hW', trodAll_mk1 (shut_bool Try.underlying4 _), (trodAll_cons_mk (shut_int Try.underlying3 w0) (trodAll_cons_mk (shut_int Try.underlying3 w1) (trodAll_cons_mk (shut_int Try.underlying3 w2) trodAll_mk0))), rfl, hg.frame _, fun h => by cases h⟩

theorem over : Rows.stripeWideRow.holds Try.pinned (OpenSpec.ofChange Rows.stripeWideSpec) :=
  OpenClaim.holds_of_wide 3 Try.f3 rfl rfl rfl rfl rfl rfl rfl ⟨rfl, rfl, rfl, rfl, rfl⟩ rfl rfl rfl rfl rfl (by kernel_rfl) Try.func3 (by kernel_rfl)
    (of_decide_eq_true (by kernel_rfl)) (by unfold Func.isWrapper; first | (rw [if_pos (by decide +kernel)]; kernel_rfl) | (rw [if_neg (by decide +kernel)]; exact ⟨rfl, rfl⟩))
    (fun os started H enc _ => lifted os started H enc)

end Go.Proofs.Ytkhgaigipfolaaa.stripeWideDone
namespace Go.Proofs.Ytkhgaigipfolaaa
theorem stripeWide_holds : Rows.StripeWideSaid := stripeWideDone.over
#print axioms stripeWide_holds
end Go.Proofs.Ytkhgaigipfolaaa
