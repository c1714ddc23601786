/- The walk of the law ChainNext. -/
import Derived.Test.YtjbgpbafgpdciaaCe
import Derived.Test.YtjbgpbafgpdciaaCf
import Derived.Test.YtjbgpbafgpdciaaCm
import Derived.Test.YtjbgpbafgpdciaaCi
namespace Go.Proofs.Ytjbgpbafgpdciaa
set_option linter.unusedVariables false
open Go.RowKit Go.Deep Go.Maps

/-- a bit of a number, as the law asks for it -/
def bt (mask : Int) (z : Int) : Bool := bits .and .u64 (mask / 2 ^ z.toNat) 1 == 1
/-- a command with a number alone -/
def csId (z : Int) : Cs0 := ⟨z, 0, ⟨#[]⟩, 0, 0, 0, 0, 0, 0, 0, 0⟩
theorem ni_nil (w : World) (Z : Nat → Prop) : Ni w Z [] nil0 := ⟨none, 0, rfl, fun j u hu => (by cases hu), by simp⟩
theorem cupd_some (C : Int → Option Cv) (z y : Int) (x : Cv) : (cupd C z x y).isSome = (decide (y = z) || (C y).isSome) := by
  unfold cupd
  by_cases e : y = z
  · rw [if_pos e, decide_eq_true e]; rfl
  · rw [if_neg e, decide_eq_false e]; rfl
theorem fr_len {w w' : World} {C : Int → Option Cv} {s most : Int} {v : Value} {k : Nat} (h : Fr w w' C s most v) (hk : Mny C s most k) : Kp (fun _ => False) w w' ∧ ∃ q cap, v = .slice q k cap := by
  obtain ⟨out, j, hr, hm, ho⟩ := h
  have e := hm.uniq hk
  subst e
  obtain ⟨q, cap, e, _⟩ := own_fl hr.o
  have hl : out.length = j := by have := congrArg List.length ho; rw [List.length_map, frm_len] at this; exact this
  rw [hl] at e
  exact ⟨hr.k, q, cap, e⟩

set_option maxRecDepth 100000 in
set_option maxHeartbeats 8000000 in
theorem chainNext_walk (a : Int) (w : World) :
    Calls Try.prog 6 #[.int .u64 a] w fun e w' => e = .returned (.bool true) ∧ Kp (fun _ => False) w w' := by
  go_enter Try.func6, Try.ntmps6
  go_wp2_with fail
  refine (cnew_ok w).mono ?_
  rintro e w1 ⟨t, m, rfl, k1, ht1, hm1, hch⟩
  have HC1 : Hid (Ch w1 (fun _ => False) t m 0 0 1 (fun _ => none)) := hch
  have HK1 : Hid (Kp (fun _ => False) w w1) := k1
  have HG : Hid (w.heap.size ≤ t ∧ w.heap.size ≤ m) := ⟨ht1, hm1⟩
  clear hch k1 ht1 hm1
  go_wp2
  go_loopg [7] 20 (fun gk iv wr => ∃ (k : Nat) (q c : Nat) (n : Int) (C : Int → Option Cv) (Z : Nat → Prop), k ≤ 20 ∧ gk = 20 - k ∧ iv = .int .i64 k ∧ Hid (Kp (fun _ => False) w wr) ∧ Hid (Ch wr Z t m q c n C) ∧ Hid (q ≤ k ∧ ∀ z, (C z).isSome = true ↔ 1 ≤ z ∧ z ≤ k ∧ bt a (z - 1) = true))
  case atStart => exact ⟨0, 0, 0, 1, fun _ => none, fun _ => False, by omega, rfl, rfl, HK1, HC1, ⟨Nat.le_refl _, fun z => ⟨fun h => (by cases h), fun h => (by omega)⟩⟩⟩
  case round =>
    obtain ⟨k, q, c, n, C, Z, hk, rfl, rfl, HKr, HCr, HQ⟩ := hrel
    obtain ⟨wr0, rfl⟩ : ∃ x, x = wr := ⟨_, rfl⟩
    by_cases hlt : (k : Int) < 20
    · by_cases ha : bt a k = true
      · have ha1 : (bits .and .u64 (a / 2 ^ k) 1 == 1) = true := ha
        have hno : C ((k : Int) + 1) = none := by
          cases hc : C ((k : Int) + 1) with
          | none => rfl
          | some x =>
            have := (HQ.out.2 ((k : Int) + 1)).1 (by rw [hc]; rfl)
            omega
        have HE : Hid (Calls _ _ _ wr0 _) := clearn_new HCr.out ((k : Int) + 1) (by omega) (csId k) [] nil0 _ (ni_nil wr0 (fun _ => False)) hno (by have := HQ.out.1; omega)
        have hwk : wrap64 ((k : Int) + 1) = (k : Int) + 1 := by unfold wrap64; omega
        clear hno
        go_wp2_with fail
        refine HE.out.mono ?_
        rintro e w2 ⟨rfl, k2, mv, n2, hC2⟩
        have HC2 : Hid (Ch w2 _ t m (q + 1) (c + 1) n2 _) := hC2
        have HW2 : Hid (Kp (fun _ => False) w w2) := HKr.out.trans k2 (fun b hb e => by have := HG.out; omega)
        clear hC2 k2 HE
        go_wp2
        go_roundg (20 - (k + 1))
        case rel =>
          refine ⟨k + 1, q + 1, c + 1, n2, _, _, by omega, rfl, rfl, HW2, HC2, ⟨by have := HQ.out.1; omega, fun z => ?_⟩⟩
          rw [cupd_some, Bool.or_eq_true, decide_eq_true_iff, HQ.out.2 z]
          constructor
          · rintro (h | h)
            · refine ⟨by omega, by omega, ?_⟩
              rw [h, show (k : Int) + 1 - 1 = (k : Int) by omega]
              exact ha
            · exact ⟨h.1, by omega, h.2.2⟩
          · intro h
            by_cases e : z = (k : Int) + 1
            · exact Or.inl e
            · exact Or.inr ⟨h.1, by omega, h.2.2⟩
        case measure => omega
      · have ha0 : bt a k = false := by simpa using ha
        have ha1 : (bits .and .u64 (a / 2 ^ k) 1 == 1) = false := ha0
        have hwk : wrap64 ((k : Int) + 1) = (k : Int) + 1 := by unfold wrap64; omega
        go_wp2
        go_roundg (20 - (k + 1))
        case rel =>
          refine ⟨k + 1, q, c, n, C, Z, by omega, rfl, rfl, HKr, HCr, ⟨by have := HQ.out.1; omega, fun z => ?_⟩⟩
          rw [HQ.out.2 z]
          constructor
          · intro h
            exact ⟨h.1, by omega, h.2.2⟩
          · intro h
            refine ⟨h.1, ?_, h.2.2⟩
            by_cases e : z = (k : Int) + 1
            · exfalso
              have h3 := h.2.2
              rw [e, show (k : Int) + 1 - 1 = (k : Int) by omega, ha0] at h3
              cases h3
            · omega
        case measure => omega
    · obtain rfl : k = 20 := by omega
      have HQ2 : Hid (∀ z, (C z).isSome = true ↔ 1 ≤ z ∧ z ≤ 20 ∧ bt a (z - 1) = true) := HQ.out.2
      clear HQ
      go_wp2
      go_loopg [4] 21 (fun gk iv wr => ∃ (j : Nat), j ≤ 20 ∧ gk = 21 - j ∧ iv = .int .i64 ((j : Int) + 1) ∧ wr = wr0 ∧ Hid (∀ i : Nat, i < j → bt a i = true))
      case atStart => exact ⟨0, by omega, rfl, rfl, rfl, fun i hi => (by omega)⟩
      case round =>
        obtain ⟨j, hj, rfl, rfl, hwr, HJ⟩ := hrel
        subst hwr
        have hwj : wrap64 ((j : Int) + 1 - 1) = (j : Int) := by unfold wrap64; omega
        have hwj2 : wrap64 ((j : Int) + 1 + 1) = ((j + 1 : Nat) : Int) + 1 := by unfold wrap64; omega
        have HFin : Hid (bt a j = false ∨ j = 20 → Fst C ((j : Int) + 1)) := fun h => by
          refine ⟨by omega, ?_, fun z h1 h2 => (HQ2.out z).2 ⟨h1, by omega, ?_⟩⟩
          · cases hc : C ((j : Int) + 1) with
            | none => rfl
            | some x =>
              have h2 := (HQ2.out ((j : Int) + 1)).1 (by rw [hc]; rfl)
              rw [show (j : Int) + 1 - 1 = (j : Int) by omega] at h2
              rcases h with h | h
              · rw [h] at h2; have := h2.2.2; cases this
              · omega
          · have := HJ.out (z - 1).toNat (by omega)
            rwa [show (((z - 1).toNat : Nat) : Int) = z - 1 by omega] at this
        have HEnd : Hid (Fst C ((j : Int) + 1) → n = (j : Int) + 1 ∧ Mny C (max (-5) 1) 100 j ∧ Mny C (max 1 1) 3 (min 3 j)) := fun h => by
          refine ⟨HCr.out.fs.uniq h, ⟨fun i hi => h.2.2 _ (by omega) (by omega), by omega, fun _ => ?_⟩, ⟨fun i hi => h.2.2 _ (by omega) (by omega), by omega, fun hh => ?_⟩⟩
          · rw [show max (-5 : Int) 1 + (j : Int) = (j : Int) + 1 by omega]; exact h.2.1
          · rw [show max (1 : Int) 1 + ((min 3 j : Nat) : Int) = (j : Int) + 1 by omega]; exact h.2.1
        have HFr : Hid (∀ u s most, (s = -5 ∨ s = 1) → Ch u Z t m q c n C → Calls Try.prog 18 #[.pointer (some ⟨t, 0, none⟩), .int .i64 s, .int .i64 most] u fun e w' => ∃ v, e = .returned v ∧ Fr u w' C (max s 1) most v) := fun u s most hs hc => cfrom_ok hc s most (by omega) 21 ⟨by omega, fun i hi => by
          have := (HQ2.out _).1 hi
          omega⟩
        have hmn : min 3 (j : Int) = ((min 3 j : Nat) : Int) := by omega
        by_cases hj20 : (j : Int) + 1 ≤ 20
        · by_cases hb : bt a j = true
          · have hb1 : (bits .and .u64 (a / 2 ^ j) 1 == 1) = true := hb
            have HJ2 : Hid (∀ i : Nat, i < j + 1 → bt a i = true) := fun i hi => by
              by_cases e : i = j
              · rw [e]; exact hb
              · exact HJ.out i (by omega)
            clear HFr HEnd HFin
            go_wp2
            go_roundg (21 - (j + 1))
            case rel => exact ⟨j + 1, by omega, rfl, by first | rfl | (rw [hwj2]), rfl, HJ2⟩
            case measure => omega
          · have hb0 : bt a j = false := by simpa using hb
            have hb1 : (bits .and .u64 (a / 2 ^ j) 1 == 1) = false := hb0
            obtain ⟨hn, hm1, hm2⟩ := HEnd.out (HFin.out (Or.inl hb0))
            subst hn
            have HM1 : Hid (Mny C (max (-5) 1) 100 j) := hm1
            have HM2 : Hid (Mny C (max 1 1) 3 (min 3 j)) := hm2
            have HNx : Hid (Calls _ _ _ wr _) := cnext_ok HCr.out
            clear hm1 hm2
            go_wp2_with fail
            refine HNx.out.mono ?_
            rintro e w3 ⟨rfl, hw3⟩
            obtain rfl := hw3
            go_wp2_with fail
            refine (HFr.out _ (-5) 100 (Or.inl rfl) HCr.out).mono ?_
            rintro e w4 ⟨v4, rfl, hf4⟩
            obtain ⟨k4, q4, c4, rfl⟩ := fr_len hf4 HM1.out
            clear hf4
            go_wp2_with fail
            refine (HFr.out _ 1 3 (Or.inr rfl) (HCr.out.keep0 k4)).mono ?_
            rintro e w5 ⟨v5, rfl, hf5⟩
            obtain ⟨k5, q5, c5, rfl⟩ := fr_len hf5 HM2.out
            clear hf5
            go_wp2
            go_ret
            exact ⟨rfl, (HKr.out.trans k4 (fun _ _ e => e)).trans k5 (fun _ _ e => e)⟩
        · have hj21 : ¬ ((j : Int) + 1 ≤ 20) := hj20
          obtain ⟨hn, hm1, hm2⟩ := HEnd.out (HFin.out (Or.inr (by omega)))
          subst hn
          have HM1 : Hid (Mny C (max (-5) 1) 100 j) := hm1
          have HM2 : Hid (Mny C (max 1 1) 3 (min 3 j)) := hm2
          have HNx : Hid (Calls _ _ _ wr _) := cnext_ok HCr.out
          clear hm1 hm2
          go_wp2_with fail
          refine HNx.out.mono ?_
          rintro e w3 ⟨rfl, hw3⟩
          obtain rfl := hw3
          go_wp2_with fail
          refine (HFr.out _ (-5) 100 (Or.inl rfl) HCr.out).mono ?_
          rintro e w4 ⟨v4, rfl, hf4⟩
          obtain ⟨k4, q4, c4, rfl⟩ := fr_len hf4 HM1.out
          clear hf4
          go_wp2_with fail
          refine (HFr.out _ 1 3 (Or.inr rfl) (HCr.out.keep0 k4)).mono ?_
          rintro e w5 ⟨v5, rfl, hf5⟩
          obtain ⟨k5, q5, c5, rfl⟩ := fr_len hf5 HM2.out
          clear hf5
          go_wp2
          go_ret
          exact ⟨rfl, (HKr.out.trans k4 (fun _ _ e => e)).trans k5 (fun _ _ e => e)⟩
end Go.Proofs.Ytjbgpbafgpdciaa
