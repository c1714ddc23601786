/- The walk of the law StripeUnits: each byte of a blob stands where its stripe and its unit say. -/
import Derived.Test.YtkhgaigipfolaaaDoorS2
namespace Go.Proofs.YtkhgaigipfolaaaDoor
open Go.RowKit Go.Deep

theorem seatK_eq (K p : Nat) : p / 8 % K = seatK K p := by
  unfold seatK; rw [Nat.mul_comm K 8, Nat.mod_mul_right_div_self]
theorem seatAt_eq (K p : Nat) : p / (8 * K) * 8 + p % 8 = seatAt K p := by
  unfold seatAt; rw [Nat.mul_comm K 8, Nat.mod_mul_right_mod]
theorem seatAt_lt2 {K la p : Nat} (_hK : 1 ≤ K) (hp : p < lenOf K la * K) : seatAt K p < lenOf K la := by
  unfold seatAt
  unfold lenOf at hp ⊢
  have h : p / (K * 8) < stripesOf K la := by
    rw [Nat.div_lt_iff_lt_mul (by omega)]
    have : stripesOf K la * (K * 8) = stripesOf K la * 8 * K := by rw [Nat.mul_comm K 8, Nat.mul_assoc]
    omega
  omega
theorem units_byte {K la p : Nat} {f : Nat → Nat} (hf : ∀ i, f i < 256) (hK : 1 ≤ K) : enc K (cutAt K f la) (seatK K p) (seatAt K p) = if p < la then f p else 0 := by
  rw [enc_data (cutAt_lt hf K la) (seatK_lt hK p)]
  unfold cutAt
  rw [byteAt_seat]

set_option maxRecDepth 100000 in
set_option maxHeartbeats 3200000 in
theorem units_small (k m : Int) (pa : Option Addr) (ba oa la ca : Nat) (f : Nat → Nat) (w : World) (hpa : ∀ k, k < la → pa = some ⟨ba, oa, none⟩) (hc : ∀ k, k < la → w.cell? ⟨ba, oa + k, none⟩ = some (.int .u8 ((f k : Nat) : Int))) (hf : ∀ k, f k < 256)
    (hla : (la : Int) ≤ 400) (hca : ((la : Nat) : Int) ≤ (ca : Int)) (hp : Pows w) :
    Calls Tryd.prog 6 #[.int .i64 k, .int .i64 m, .slice pa la ca] w fun e w' => e = .returned (.bool true) ∧ Kp (fun _ => False) w w' := by
  obtain ⟨K, M, ⟨b1, b2, b3⟩, hcode⟩ := codeX k m
  have HC : Hid (∀ w, Calls _ _ _ w _) := hcode
  have HP : Hid (∀ k, k < la → pa = some ⟨ba, oa, none⟩) := hpa
  have HB : Hid (∀ k, k < la → w.cell? ⟨ba, oa + k, none⟩ = some (.int .u8 ((f k : Nat) : Int))) := hc
  have HF : Hid (∀ k, f k < 256) := hf
  obtain ⟨l1, l2⟩ := lenOf_bd (K := K) (size := la) (by omega) (by omega)
  have HU : Hid (∀ p, enc K (cutAt K f la) (seatK K p) (seatAt K p) = if p < la then f p else 0) := fun p => units_byte hf b1
  have HSA : Hid (∀ p, p < lenOf K la * K → seatAt K p < lenOf K la) := fun p hp => seatAt_lt2 b1 hp
  have HSK : Hid (∀ p, seatK K p < K) := fun p => seatK_lt b1 p
  clear hcode hpa hc hf
  go_enter Tryd.func6, Tryd.ntmps6
  go_wp2_with fail
  refine (HC.out _).mono ?_
  rintro e w1 ⟨rfl, k1⟩
  obtain ⟨wa, hwa, ka, za, q1, q2⟩ := code_alloc w1 K M
  have k1a := k1.trans ka (fun _ _ e => e)
  have HX : Hid (∀ c, Calls _ _ #[_, .slice _ _ c] wa _) := fun c => cut_yes K M la (.slice pa la c) f wa ⟨pa, ba, oa, c, rfl, HP.out, fun k hk => k1a.cellv (HB.out k hk) id, HF.out⟩ (by omega) (by omega) (by omega) (k1a.pows hp id)
  go_wp2_with fail
  rw [← hwa]
  clear hwa
  refine (HX.out _).mono ?_
  rintro e w2 ⟨t, B, rfl, k2, ht, hB, hM⟩
  clear HX HC
  have r1 := k2.cellv q1 id
  have r2 := k2.cellv q2 id
  have k12 := k1a.trans k2 (fun _ _ e => e)
  have hneq' : (((K + M : Nat) : Int) != (K : Int) + (M : Int)) = false := by rw [show ((K + M : Nat) : Int) = (K : Int) + (M : Int) from by simp]; exact bne_self_eq_false _
  have hneq : ((K : Int) + (M : Int) != (K : Int) + (M : Int)) = false := bne_self_eq_false _
  have HL : Hid (Calls _ _ _ w2 _) := length_yes K M la w2 (by omega) (by omega) (by omega)
  clear q1 q2
  go_wp2_with fail
  refine HL.out.mono ?_
  rintro e w3 ⟨rfl, k3⟩
  clear HL hneq hneq'
  have s1 := k3.cellv r1 id
  have s2 := k3.cellv r2 id
  have k13 := k12.trans k3 (fun _ _ e => e)
  have hM3 := hM.keep k3 id (fun _ _ => id)
  clear hM r1 r2
  generalize lenOf K la = N at *
  obtain ⟨NK, hNK⟩ : ∃ x, x = N * K := ⟨_, rfl⟩
  have hNK1 : (N : Int) * (K : Int) = (NK : Int) := by rw [hNK]; simp
  have hNK2 : NK ≤ 4800 := by
    have : N * K ≤ 400 * 12 := Nat.mul_le_mul l2 b2
    omega
  have HNK : Hid (NK = N * K) := hNK
  clear hNK
  go_wp2
  go_loopg [48] NK (fun gk i wr => ∃ p : Nat, p ≤ NK ∧ gk = NK - p ∧ i = .int .i64 p ∧ wr = w3)
  case atStart => exact ⟨0, Nat.zero_le _, rfl, rfl, rfl⟩
  case round =>
    obtain ⟨p, hp1, rfl, rfl, rfl⟩ := hrel
    by_cases hlt : (p : Int) < (NK : Int)
    · have sk := HSK.out p
      have sa := HSA.out p (by have := HNK.out; omega)
      have hu := HU.out p
      have hSA := (seatAt_eq K p).symm
      have hSK := (seatK_eq K p).symm
      obtain ⟨D8, hD⟩ : ∃ x, x = p / 8 := ⟨_, rfl⟩
      obtain ⟨R8, hR⟩ : ∃ x, x = p % 8 := ⟨_, rfl⟩
      obtain ⟨Q8, hQ⟩ : ∃ x, x = p / (8 * K) := ⟨_, rfl⟩
      have hQb : Q8 ≤ p := by rw [hQ]; exact Nat.div_le_self _ _
      have hRb : R8 < 8 := by omega
      have d1 : (p : Int).tdiv 8 = (D8 : Int) := by rw [hD]; rfl
      have d2 : (p : Int) / 8 = (D8 : Int) := by omega
      have d3 : (p : Int).tmod 8 = (R8 : Int) := by rw [hR]; rfl
      have d4 : (p : Int) % 8 = (R8 : Int) := by omega
      have d5 : (p : Int).tdiv (8 * (K : Int)) = (Q8 : Int) := by rw [hQ, show (8 * (K : Int)) = ((8 * K : Nat) : Int) from by simp]; rfl
      have d6 : (p : Int) / (8 * (K : Int)) = (Q8 : Int) := by rw [hQ, show (8 * (K : Int)) = ((8 * K : Nat) : Int) from by simp]; rfl
      rw [← hD] at hSK
      rw [← hQ, ← hR] at hSA
      generalize seatK K p = SK at *
      generalize seatAt K p = SA at *
      have d7 : (D8 : Int).tmod (K : Int) = (SK : Int) := by rw [hSK]; rfl
      have d8 : (D8 : Int) % (K : Int) = (SK : Int) := by rw [hSK]; rfl
      have t1 := hM3.top.cell (i := SK) (by omega)
      have t2 := (hM3.row SK (by omega)).cell (i := SA) (by omega)
      simp only [By] at t2
      rw [hu, hSA] at t2
      have i1 : (SK : Int) < (K : Int) + (M : Int) := by omega
      have i2 : (Q8 : Int) * 8 + (R8 : Int) < (N : Int) := by omega
      have z1 : ((K : Int) == 0) = false := beq_eq_false_iff_ne.2 (by omega)
      have z2 : (8 * (K : Int) == 0) = false := beq_eq_false_iff_ne.2 (by omega)
      have nn : ((N : Int) != (N : Int)) = false := bne_self_eq_false _
      have HSA2 : Hid (SA = Q8 * 8 + R8 ∧ D8 = p / 8 ∧ R8 = p % 8 ∧ SK = D8 % K) := ⟨hSA, hD, hR, hSK⟩
      have hQp : (Q8 : Int) ≤ 4800 := by omega
      clear hSA hD hR hSK hu hQ sa
      by_cases hpl : p < la
      · obtain rfl := HP.out p hpl
        have c0 := k13.cellv (HB.out p hpl) id
        rw [if_pos hpl] at t2
        have hpl' : (p : Int) < ((la : Nat) : Int) := by omega
        have ff : ((f p : Int) != (f p : Int)) = false := bne_self_eq_false _
        clear hM3
        go_wp2
        go_roundg (NK - (p + 1))
        case rel => exact ⟨p + 1, by omega, rfl, by go_num, rfl⟩
        case measure => omega
      · rw [if_neg hpl] at t2
        have hpl' : ¬ (p : Int) < ((la : Nat) : Int) := by omega
        clear hM3
        go_wp2
        go_roundg (NK - (p + 1))
        case rel => exact ⟨p + 1, by omega, rfl, by go_num, rfl⟩
        case measure => omega
    · go_wp2
      go_ret
      exact ⟨rfl, k13⟩

set_option maxRecDepth 100000 in
set_option maxHeartbeats 3200000 in
theorem units_great (k m : Int) (pa : Option Addr) (ba oa lx ca : Nat) (f : Nat → Nat) (w : World) (hpa : ∀ k, k < 400 → pa = some ⟨ba, oa, none⟩) (hc : ∀ k, k < 400 → w.cell? ⟨ba, oa + k, none⟩ = some (.int .u8 ((f k : Nat) : Int))) (hf : ∀ k, f k < 256)
    (hla : 400 < (lx : Int)) (hca : ((lx : Nat) : Int) ≤ (ca : Int)) (hp : Pows w) :
    Calls Tryd.prog 6 #[.int .i64 k, .int .i64 m, .slice pa lx ca] w fun e w' => e = .returned (.bool true) ∧ Kp (fun _ => False) w w' := by
  obtain ⟨K, M, ⟨b1, b2, b3⟩, hcode⟩ := codeX k m
  have HC : Hid (∀ w, Calls _ _ _ w _) := hcode
  have HP : Hid (∀ k, k < 400 → pa = some ⟨ba, oa, none⟩) := hpa
  have HB : Hid (∀ k, k < 400 → w.cell? ⟨ba, oa + k, none⟩ = some (.int .u8 ((f k : Nat) : Int))) := hc
  have HF : Hid (∀ k, f k < 256) := hf
  obtain ⟨l1, l2⟩ := lenOf_bd (K := K) (size := 400) (by omega) (by omega)
  have HU : Hid (∀ p, enc K (cutAt K f 400) (seatK K p) (seatAt K p) = if p < 400 then f p else 0) := fun p => units_byte hf b1
  have HSA : Hid (∀ p, p < lenOf K 400 * K → seatAt K p < lenOf K 400) := fun p hp => seatAt_lt2 b1 hp
  have HSK : Hid (∀ p, seatK K p < K) := fun p => seatK_lt b1 p
  clear hcode hpa hc hf
  go_enter Tryd.func6, Tryd.ntmps6
  go_wp2_with fail
  refine (HC.out _).mono ?_
  rintro e w1 ⟨rfl, k1⟩
  obtain ⟨wa, hwa, ka, za, q1, q2⟩ := code_alloc w1 K M
  have k1a := k1.trans ka (fun _ _ e => e)
  have HX : Hid (∀ c, Calls _ _ #[_, .slice _ _ c] wa _) := fun c => cut_yes K M 400 (.slice pa 400 c) f wa ⟨pa, ba, oa, c, rfl, HP.out, fun k hk => k1a.cellv (HB.out k hk) id, HF.out⟩ (by omega) (by omega) (by omega) (k1a.pows hp id)
  go_wp2_with fail
  rw [← hwa]
  clear hwa
  refine (HX.out _).mono ?_
  rintro e w2 ⟨t, B, rfl, k2, ht, hB, hM⟩
  clear HX HC
  have r1 := k2.cellv q1 id
  have r2 := k2.cellv q2 id
  have k12 := k1a.trans k2 (fun _ _ e => e)
  have hneq' : (((K + M : Nat) : Int) != (K : Int) + (M : Int)) = false := by rw [show ((K + M : Nat) : Int) = (K : Int) + (M : Int) from by simp]; exact bne_self_eq_false _
  have hneq : ((K : Int) + (M : Int) != (K : Int) + (M : Int)) = false := bne_self_eq_false _
  have HL : Hid (Calls _ _ _ w2 _) := length_yes K M 400 w2 (by omega) (by omega) (by omega)
  clear q1 q2
  go_wp2_with fail
  refine HL.out.mono ?_
  rintro e w3 ⟨rfl, k3⟩
  clear HL hneq hneq'
  have s1 := k3.cellv r1 id
  have s2 := k3.cellv r2 id
  have k13 := k12.trans k3 (fun _ _ e => e)
  have hM3 := hM.keep k3 id (fun _ _ => id)
  clear hM r1 r2
  generalize lenOf K 400 = N at *
  obtain ⟨NK, hNK⟩ : ∃ x, x = N * K := ⟨_, rfl⟩
  have hNK1 : (N : Int) * (K : Int) = (NK : Int) := by rw [hNK]; simp
  have hNK2 : NK ≤ 4800 := by
    have : N * K ≤ 400 * 12 := Nat.mul_le_mul l2 b2
    omega
  have HNK : Hid (NK = N * K) := hNK
  clear hNK
  go_wp2
  go_loopg [48] NK (fun gk i wr => ∃ p : Nat, p ≤ NK ∧ gk = NK - p ∧ i = .int .i64 p ∧ wr = w3)
  case atStart => exact ⟨0, Nat.zero_le _, rfl, rfl, rfl⟩
  case round =>
    obtain ⟨p, hp1, rfl, rfl, rfl⟩ := hrel
    by_cases hlt : (p : Int) < (NK : Int)
    · have sk := HSK.out p
      have sa := HSA.out p (by have := HNK.out; omega)
      have hu := HU.out p
      have hSA := (seatAt_eq K p).symm
      have hSK := (seatK_eq K p).symm
      obtain ⟨D8, hD⟩ : ∃ x, x = p / 8 := ⟨_, rfl⟩
      obtain ⟨R8, hR⟩ : ∃ x, x = p % 8 := ⟨_, rfl⟩
      obtain ⟨Q8, hQ⟩ : ∃ x, x = p / (8 * K) := ⟨_, rfl⟩
      have hQb : Q8 ≤ p := by rw [hQ]; exact Nat.div_le_self _ _
      have hRb : R8 < 8 := by omega
      have d1 : (p : Int).tdiv 8 = (D8 : Int) := by rw [hD]; rfl
      have d2 : (p : Int) / 8 = (D8 : Int) := by omega
      have d3 : (p : Int).tmod 8 = (R8 : Int) := by rw [hR]; rfl
      have d4 : (p : Int) % 8 = (R8 : Int) := by omega
      have d5 : (p : Int).tdiv (8 * (K : Int)) = (Q8 : Int) := by rw [hQ, show (8 * (K : Int)) = ((8 * K : Nat) : Int) from by simp]; rfl
      have d6 : (p : Int) / (8 * (K : Int)) = (Q8 : Int) := by rw [hQ, show (8 * (K : Int)) = ((8 * K : Nat) : Int) from by simp]; rfl
      rw [← hD] at hSK
      rw [← hQ, ← hR] at hSA
      generalize seatK K p = SK at *
      generalize seatAt K p = SA at *
      have d7 : (D8 : Int).tmod (K : Int) = (SK : Int) := by rw [hSK]; rfl
      have d8 : (D8 : Int) % (K : Int) = (SK : Int) := by rw [hSK]; rfl
      have t1 := hM3.top.cell (i := SK) (by omega)
      have t2 := (hM3.row SK (by omega)).cell (i := SA) (by omega)
      simp only [By] at t2
      rw [hu, hSA] at t2
      have i1 : (SK : Int) < (K : Int) + (M : Int) := by omega
      have i2 : (Q8 : Int) * 8 + (R8 : Int) < (N : Int) := by omega
      have z1 : ((K : Int) == 0) = false := beq_eq_false_iff_ne.2 (by omega)
      have z2 : (8 * (K : Int) == 0) = false := beq_eq_false_iff_ne.2 (by omega)
      have nn : ((N : Int) != (N : Int)) = false := bne_self_eq_false _
      have HSA2 : Hid (SA = Q8 * 8 + R8 ∧ D8 = p / 8 ∧ R8 = p % 8 ∧ SK = D8 % K) := ⟨hSA, hD, hR, hSK⟩
      have hQp : (Q8 : Int) ≤ 4800 := by omega
      clear hSA hD hR hSK hu hQ sa
      by_cases hpl : p < 400
      · obtain rfl := HP.out p hpl
        have c0 := k13.cellv (HB.out p hpl) id
        rw [if_pos hpl] at t2
        have hpl' : (p : Int) < ((400 : Nat) : Int) := by omega
        have ff : ((f p : Int) != (f p : Int)) = false := bne_self_eq_false _
        clear hM3
        go_wp2
        go_roundg (NK - (p + 1))
        case rel => exact ⟨p + 1, by omega, rfl, by go_num, rfl⟩
        case measure => omega
      · rw [if_neg hpl] at t2
        have hpl' : ¬ (p : Int) < ((400 : Nat) : Int) := by omega
        clear hM3
        go_wp2
        go_roundg (NK - (p + 1))
        case rel => exact ⟨p + 1, by omega, rfl, by go_num, rfl⟩
        case measure => omega
    · go_wp2
      go_ret
      exact ⟨rfl, k13⟩

theorem units_walk (k m : Int) (a : Value) (la : Nat) (f : Nat → Nat) (w : World) (ha : Bc w a la f) (hp : Pows w) :
    Calls Tryd.prog 6 #[.int .i64 k, .int .i64 m, a] w fun e w' => e = .returned (.bool true) ∧ Kp (fun _ => False) w w' := by
  obtain ⟨pa, ba, oa, ca, rfl, h1, h2, h3, h4⟩ := ha
  by_cases h : (la : Int) ≤ 400
  · exact units_small k m pa ba oa la ca f w h1 h2 h3 h (by omega) hp
  · exact units_great k m pa ba oa la ca f w (fun k hk => h1 k (by omega)) (fun k hk => h2 k (by omega)) h3 (by omega) (by omega) hp
end Go.Proofs.YtkhgaigipfolaaaDoor
