/- The walk of the law ChainPieces. -/
import Derived.Test.YtjbgpbafgpdciaaCnx
namespace Go.Proofs.Ytjbgpbafgpdciaa
set_option linter.unusedVariables false
open Go.RowKit Go.Deep Go.Maps

theorem cflat_nth : ∀ (l : List Cv) (k : Nat) (h : k < l.length), ((cflat l).drop (k * 12)).take 12 = (ccell l[k]).toList
  | [], k, h => absurd h (Nat.not_lt_zero _)
  | x :: l, 0, _ => by rfl
  | x :: l, k + 1, h => by
    have := cflat_nth l k (by simpa using h)
    show (((ccell x).toList ++ cflat l).drop ((k + 1) * 12)).take 12 = _
    rw [List.drop_append, List.drop_of_length_le (by simp; omega), List.nil_append]
    have e : (k + 1) * 12 - (ccell x).toList.length = k * 12 := by simp; omega
    rw [e, this]
    rfl
theorem frm_get (C : Int → Option Cv) (s : Int) (k i : Nat) (h : i < k) : (frm C s k)[i]? = some (plainC C (s + (i : Int))) := by
  unfold frm
  rw [List.getElem?_map, List.getElem?_range h]; rfl

set_option maxRecDepth 100000 in
set_option maxHeartbeats 8000000 in
theorem chainPieces_walk (a b : Int) (w : World) :
    Calls Try.prog 8 #[.int .i64 a, .int .i64 b] w fun e w' => e = .returned (.bool true) ∧ Kp (fun _ => False) w w' := by
  have h30 := md_eq 30 a (by omega) (by omega)
  have h9 := md_eq 9 b (by omega) (by omega)
  have hl30 := md_lt 30 a (by omega)
  have hl9 := md_lt 9 b (by omega)
  obtain ⟨N, hN⟩ : ∃ N, N = md 30 a := ⟨_, rfl⟩
  obtain ⟨M, hM⟩ : ∃ M : Nat, M = 1 + md 9 b := ⟨_, rfl⟩
  rw [← hN] at h30 hl30
  have hw9 : wrap64 (1 + (md 9 b : Int)) = (M : Int) := by unfold wrap64; omega
  have hM9 : 1 ≤ M ∧ M ≤ 9 := by omega
  have HM : Hid (1 ≤ M ∧ M ≤ 9 ∧ N < 30) := by show _ ∧ _; omega
  clear hN hM hl9 hM9
  go_enter Try.func8, Try.ntmps8
  go_wp2_with fail
  refine (cnew_ok w).mono ?_
  rintro e w1 ⟨t, m, rfl, k1, ht1, hm1, hch⟩
  have HC1 : Hid (Ch w1 (fun _ => False) t m 0 0 1 (fun _ => none)) := hch
  have HK1 : Hid (Kp (fun _ => False) w w1) := k1
  have HG : Hid (w.heap.size ≤ t ∧ w.heap.size ≤ m) := ⟨ht1, hm1⟩
  clear hch k1 ht1 hm1
  go_wp2
  go_loopg [22] N (fun gk iv wr => ∃ (k : Nat) (q c : Nat) (n : Int) (C : Int → Option Cv) (Z : Nat → Prop), k ≤ N ∧ gk = N - k ∧ iv = .int .i64 k ∧ Hid (Kp (fun _ => False) w wr) ∧ Hid (Ch wr Z t m q c n C) ∧ Hid (q ≤ k ∧ (∀ z, C z ≠ none → (N : Int) - k < z ∧ z ≤ N) ∧ ∀ z, (N : Int) - k < z → z ≤ N → ∃ mv, C z = some (csId z, [], mv)))
  case atStart => exact ⟨0, 0, 0, 1, fun _ => none, fun _ => False, by omega, rfl, rfl, HK1, HC1, ⟨Nat.le_refl _, fun z h => absurd rfl h, fun z h1 h2 => (by omega)⟩⟩
  case round =>
    obtain ⟨k, q, c, n, C, Z, hk, rfl, rfl, HKr, HCr, HQ⟩ := hrel
    obtain ⟨wr0, rfl⟩ : ∃ x, x = wr := ⟨_, rfl⟩
    by_cases hlt : (k : Int) < (N : Int)
    · have hno : C ((N : Int) - k) = none := by
        cases hc : C ((N : Int) - k) with
        | none => rfl
        | some x =>
          have := HQ.out.2.1 ((N : Int) - k) (by rw [hc]; intro h; cases h)
          omega
      have HE : Hid (Calls _ _ _ wr0 _) := clearn_new HCr.out ((N : Int) - k) (by omega) (csId ((N : Int) - k)) [] nil0 _ (ni_nil wr0 (fun _ => False)) hno (by have := HQ.out.1; omega)
      have hwk : wrap64 ((N : Int) - k) = (N : Int) - k := by unfold wrap64; omega
      clear hno
      go_wp2_with fail
      refine HE.out.mono ?_
      rintro e w2 ⟨rfl, k2, mv, n2, hC2⟩
      have HC2 : Hid (Ch w2 _ t m (q + 1) (c + 1) n2 _) := hC2
      have HW2 : Hid (Kp (fun _ => False) w w2) := HKr.out.trans k2 (fun b hb e => by have := HG.out; omega)
      clear hC2 k2 HE
      go_wp2
      go_roundg (N - (k + 1))
      case rel =>
        refine ⟨k + 1, q + 1, c + 1, n2, _, _, by omega, rfl, by go_num, HW2, HC2, ⟨by have := HQ.out.1; omega, fun z hz => ?_, fun z h1 h2 => ?_⟩⟩
        · unfold cupd at hz
          by_cases e : z = (N : Int) - k
          · omega
          · rw [if_neg e] at hz
            have := HQ.out.2.1 z hz
            omega
        · unfold cupd
          by_cases e : z = (N : Int) - k
          · rw [if_pos e, e]; exact ⟨mv, rfl⟩
          · rw [if_neg e]; exact HQ.out.2.2 z (by omega) h2
      case measure => omega
    · obtain rfl : k = N := by omega
      have HA : Hid ((∀ z, C z ≠ none → 1 ≤ z ∧ z ≤ (k : Int)) ∧ ∀ z, 1 ≤ z → z ≤ (k : Int) → ∃ mv, C z = some (csId z, [], mv)) := ⟨fun z hz => by have := HQ.out.2.1 z hz; omega, fun z h1 h2 => HQ.out.2.2 z (by omega) h2⟩
      have HNn : Hid (∀ z : Int, (k : Int) < z → C z = none) := fun z hz => by
        cases hc : C z with
        | none => rfl
        | some x => have := HA.out.1 z (by rw [hc]; intro h; cases h); omega
      have hn : n = (k : Int) + 1 := HCr.out.fs.uniq ⟨by omega, HNn.out _ (by omega), fun z h1 h2 => by
        obtain ⟨mv, hmv⟩ := HA.out.2 z h1 (by omega)
        rw [hmv]; rfl⟩
      subst hn
      have HMn : Hid (∀ (s : Int), 1 ≤ s → s ≤ (k : Int) + 1 → Mny C (max s 1) (M : Int) (min M ((k : Int) + 1 - s).toNat)) := fun s h1 h2 => by
        have hm := HM.out
        refine ⟨fun i hi => ?_, by omega, fun hh => HNn.out _ (by omega)⟩
        obtain ⟨mv, hmv⟩ := HA.out.2 (max s 1 + (i : Int)) (by omega) (by omega)
        rw [hmv]; rfl
      have hwN : wrap64 ((k : Int) + 1) = (k : Int) + 1 := by unfold wrap64; omega
      clear HQ
      go_wp2
      go_loopg [7, 38] (k + 1) (fun gk sv iv wr => ∃ (j : Nat) (s : Int), j ≤ k + 1 ∧ gk = k + 1 - j ∧ sv = .int .i64 s ∧ iv = .int .i64 j ∧ Hid (Kp (fun _ => False) w wr) ∧ Hid (Ch wr Z t m q c ((k : Int) + 1) C) ∧ Hid (1 ≤ s ∧ s ≤ (k : Int) + 1 ∧ ((j : Int) + 1 ≤ s ∨ s = (k : Int) + 1)))
      case atStart => exact ⟨0, 1, by omega, rfl, rfl, rfl, HKr, HCr, by show _ ∧ _; omega⟩
      case round =>
        obtain ⟨j, s, hj, rfl, rfl, rfl, HKs, HCs, HS⟩ := hrel
        obtain ⟨wr1, rfl⟩ : ∃ x, x = wr := ⟨_, rfl⟩
        by_cases hlj : (j : Int) < (k : Int) + 1
        · have HE : Hid (Calls _ _ _ wr1 _) := cfrom_ok HCs.out s (M : Int) (by have := HS.out; omega) 40 ⟨by omega, fun i hi => by
            have := HA.out.1 (max s 1 + (i : Int)) (by intro h; rw [h] at hi; cases hi)
            omega⟩
          go_wp2_with fail
          refine HE.out.mono ?_
          rintro e w3 ⟨v, rfl, out, k', hR, hMy, hOut⟩
          have hk' := hMy.uniq (HMn.out s HS.out.1 HS.out.2.1)
          obtain ⟨P, hP⟩ : ∃ P : Nat, P = min M ((k : Int) + 1 - s).toNat := ⟨_, rfl⟩
          rw [← hP] at hk'
          subst hk'
          have hlen : out.length = k' := by have := congrArg List.length hOut; rw [List.length_map, frm_len] at this; exact this
          obtain ⟨qa, ca, hv, hfl⟩ := own_fl hR.o
          rw [hlen] at hv
          subst hv
          have HFl : Hid (Fl w3 (fun b => wr1.heap.size ≤ b ∧ b < w3.heap.size) qa (cflat out)) := hfl
          have HO : Hid (out.length = k' ∧ out.map (fun x => (x.1, x.2.1)) = frm C (max s 1) k' ∧ ∀ y ∈ out, Ni w3 (Zr wr1 w3 (.slice qa k' ca)) y.2.1 y.2.2) := ⟨hlen, hOut, hR.n⟩
          have HK3 : Hid (Kp (fun _ => False) wr1 w3) := hR.k
          have HP : Hid (k' = min M ((k : Int) + 1 - s).toNat ∧ 0 ≤ (k : Int) + 1 - s) := ⟨hP, by have := HS.out; omega⟩
          have hwP : wrap64 ((k : Int) + 1 - s) = (k : Int) + 1 - s := by have := HS.out; have := HM.out; unfold wrap64; omega
          have hmP : min (M : Int) ((k : Int) + 1 - s) = (k' : Int) := by have := HP.out; omega
          clear hlen hOut hR hfl hMy hP HE
          go_wp2
          go_loopg [7, 55] k' (fun gk sv iv wr => ∃ (i : Nat), i ≤ k' ∧ gk = k' - i ∧ sv = .int .i64 (s + (i : Int)) ∧ iv = .int .i64 i ∧ Hid (Kp (fun _ => False) w3 wr))
          case atStart => exact ⟨0, by omega, rfl, by simp, rfl, Kp.refl _ _⟩
          case round =>
            obtain ⟨i, hi, rfl, rfl, rfl, HKi⟩ := hrel
            clear hwP hmP
            obtain ⟨wr2, rfl⟩ : ∃ x, x = wr := ⟨_, rfl⟩
            by_cases hli : (i : Int) < (k' : Int)
            · have hil : i < out.length := by rw [HO.out.1]; omega
              have hid : out[i].1 = csId (s + (i : Int)) := by
                have h1 := frm_get C (max s 1) k' i (by omega)
                rw [← HO.out.2.1, List.getElem?_map, List.getElem?_eq_getElem hil] at h1
                have h2 := Option.some.inj h1
                have h3 : out[i].1 = (plainC C (max s 1 + (i : Int))).1 := by rw [← h2]
                have hs := HS.out
                have hp := HP.out
                obtain ⟨mv, hmv⟩ := HA.out.2 (max s 1 + (i : Int)) (by omega) (by omega)
                rw [h3]
                unfold plainC at0
                rw [hmv]
                show csId (max s 1 + (i : Int)) = _
                rw [show max s 1 = s by omega]
              obtain ⟨x, hx⟩ : ∃ x, x = out[i] := ⟨_, rfl⟩
              have hxm : x ∈ out := by rw [hx]; exact List.getElem_mem hil
              rw [← hx] at hid
              obtain ⟨bb, off, rfl, hzz, hcc⟩ := HFl.out (i * 12) (.int .i64 out[i].1.id) (by
                have h1 := cflat_nth out i hil
                have h2 : (((cflat out).drop (i * 12)).take 12)[0]? = some (.int .i64 out[i].1.id) := by rw [h1]; rfl
                rw [List.getElem?_take_of_lt (by omega), List.getElem?_drop] at h2
                simpa using h2)
              have hr := fl_range (HFl.out.keep HKi.out (fun _ _ => id)) (i * 12) 12
              rw [cflat_nth out i hil, ← hx] at hr
              have HR : Hid (wr2.rangeAt bb (off + i * 12) (ccell x).toList) := hr
              have HOx : Hid ((ccell x).toList.toArray.all (·.oneCell') = true) := cc_one x (HO.out.2.2 x hxm)
              obtain ⟨xs, hxs⟩ : ∃ xs, xs = (ccell x).toList := ⟨_, rfl⟩
              rw [← hxs] at HR HOx
              have HXS : Hid (xs.length = 12 ∧ xs[0]? = some (.int .i64 (s + (i : Int)))) := ⟨by rw [hxs]; rfl, by rw [hxs]; show some (Value.int .i64 x.1.id) = _; rw [hid]; rfl⟩
              have hws : wrap64 (s + (i : Int) + 1) = s + ((i + 1 : Nat) : Int) := by have := HS.out; have := HP.out; have := HM.out; unfold wrap64; omega
              have HWi : Hid (wrap64 ((i : Int) + 1) = ((i + 1 : Nat) : Int)) := by show _ = _; have := HP.out; have := HM.out; unfold wrap64; omega
              obtain ⟨dC, hdC1, hdC2⟩ := dsCmd
              clear hr hxs hid hxm hx hcc hzz hil
              go_wp2_with (first
                | (refine wpList_load_mid rfl 34 _ rfl bb (off + i * 12) rfl xs dC HR.out hdC1 hdC2 (by rw [szCmd, HXS.out.1]) ?_)
                | (refine wpList_store_all rfl 34 _ _ rfl 12 wr2.heap.size zeroC.toList xs rfl rfl (by exact Lv.new wr2 _ _) szCmd rfl HXS.out.1 HOx.out ?_; intro w4 hl4 k4; have kn4 : Kp (fun _ => False) wr2 w4 := ((Kp.refl (fun _ => False) wr2).alloc _).trans k4 (fun b hb e => by omega); have s0 : w4.cell? ⟨wr2.heap.size, 0, none⟩ = some (.int .i64 (s + (i : Int))) := hl4.cell (j := 0) HXS.out.2; have HK4 : Hid (Kp (fun _ => False) w3 w4) := HKi.out.trans kn4 (fun _ _ e => e); clear hl4 k4 kn4))
              go_roundg (k' - (i + 1))
              case rel => exact ⟨i + 1, by omega, rfl, by first | rfl | (rw [hws]), by rw [HWi.out], HK4⟩
              case measure => omega
            · obtain rfl : i = k' := by omega
              have HW4 : Hid (Kp (fun _ => False) w wr2) := HKs.out.trans (HK3.out.trans HKi.out (fun _ _ e => e)) (fun _ _ e => e)
              have HC4 : Hid (Ch wr2 Z t m q c ((k : Int) + 1) C) := HCs.out.keep0 (HK3.out.trans HKi.out (fun _ _ e => e))
              go_wp2
              go_roundg (k + 1 - (j + 1))
              case rel => exact ⟨j + 1, s + (i : Int), by omega, rfl, rfl, by go_num, HW4, HC4, by show _ ∧ _; have := HS.out; have := HP.out; have := HM.out; omega⟩
              case measure => omega
        · have hs : s = (k : Int) + 1 := by have := HS.out; omega
          subst hs
          have HX : Hid (Calls _ _ _ wr1 _) := cnext_ok HCs.out
          clear HMn
          go_wp2_with fail
          refine HX.out.mono ?_
          rintro e w2 ⟨rfl, hw2⟩
          obtain rfl := hw2
          go_wp2
          go_ret
          exact ⟨rfl, HKs.out⟩
end Go.Proofs.Ytjbgpbafgpdciaa
