/- The walks of stripe.Length, seat and Cut. -/
import Derived.Test.YtmncocmeafcpfaaDoorMfS0
import Derived.Test.YtmncocmeafcpfaaDoorMfMa
namespace Go.Proofs.YtmncocmeafcpfaaDoor.Mf
open Go.RowKit Go.Deep

set_option maxRecDepth 100000 in
set_option maxHeartbeats 1600000 in
theorem length_yes (K M size : Nat) (w : World) (h1 : 1 ≤ (K : Int)) (h3 : (M : Int) ≤ 255 - (K : Int)) (hs : (size : Int) ≤ 400) :
    Calls Tryd.prog 95 #[.agg #[.int .i64 K, .int .i64 M], .int .i64 size] w fun e w' => e = .returned (.int .i64 (lenOf K size : Int)) ∧ Kp (fun _ => False) w w' := by
  obtain ⟨wa, hwa, ka, za, q1, q2⟩ := code_alloc w K M
  have HC : Hid (Calls _ _ _ wa _) := can_yes K M wa h1 (by omega) h3
  have hq := quot_eq (K := K) (size := size) (by omega)
  have hq2 := quot_le (K := K) (size := size) (by omega) (by omega)
  have HL : Hid (lenOf K size = max 1 ((size + K * 8 - 1) / (K * 8)) * 8) := rfl
  generalize (size + K * 8 - 1) / (K * 8) = Q at *
  have d1 : decide (400 < (size : Int)) = false := by simp; omega
  have d2 : ((K : Int) * 8 == 0) = false := beq_eq_false_iff_ne.2 (by omega)
  go_enter Tryd.func95, Tryd.ntmps95
  go_wp2_with fail
  rw [← hwa]
  refine HC.out.mono ?_
  rintro e w1 ⟨rfl, k1⟩
  have r1 := k1.cellv q1 id
  have r2 := k1.cellv q2 id
  have kk := ka.trans k1 (fun _ _ e => e)
  clear hwa
  go_wp2
  · go_ret
    exact ⟨by rw [show (lenOf K size : Int) = (Q : Int) * 8 from by rw [HL.out]; omega]; rfl, kk⟩
  · go_ret
    exact ⟨by rw [show (lenOf K size : Int) = 8 from by rw [HL.out]; omega]; rfl, kk⟩

set_option maxRecDepth 100000 in
set_option maxHeartbeats 1600000 in
theorem seat_any (K M i : Nat) (w : World) (h1 : 1 ≤ (K : Int)) (h2 : (K : Int) ≤ 255) (hi : (i : Int) ≤ 100000) :
    Calls Tryd.prog 117 #[.agg #[.int .i64 K, .int .i64 M], .int .i64 i] w fun e w' => e = .returned (.tuple #[.int .i64 (seatK K i : Int), .int .i64 (seatAt K i : Int)]) ∧ Kp (fun _ => False) w w' := by
  obtain ⟨wa, hwa, ka, za, q1, q2⟩ := code_alloc w K M
  obtain ⟨hq, hr⟩ := seat_eq (K := K) (i := i) (by omega)
  have hqb : i / (K * 8) ≤ i := Nat.div_le_self _ _
  have hrb : i % (K * 8) < K * 8 := Nat.mod_lt _ (by omega)
  have d2 : ((K : Int) * 8 == 0) = false := beq_eq_false_iff_ne.2 (by omega)
  have HA : Hid (seatK K i = i % (K * 8) / 8 ∧ seatAt K i = i / (K * 8) * 8 + i % (K * 8) % 8) := ⟨rfl, rfl⟩
  generalize i / (K * 8) = Q at *
  generalize i % (K * 8) = R at *
  have t1 : (R : Int).tdiv 8 = ((R / 8 : Nat) : Int) := rfl
  have t2 : (R : Int).tmod 8 = ((R % 8 : Nat) : Int) := rfl
  go_enter Tryd.func117, Tryd.ntmps117
  go_wp2
  go_region
  all_goals
    go_wp2
    go_ret2
    refine ⟨by rw [HA.out.1, HA.out.2, show ((R / 8 : Nat) : Int) = (R : Int) / 8 from by omega, show ((Q * 8 + R % 8 : Nat) : Int) = (Q : Int) * 8 + (R : Int) % 8 from by omega]; rfl, ?_⟩
    rw [← hwa]
    exact ka.drew

set_option maxRecDepth 100000 in
set_option maxHeartbeats 3200000 in
theorem cut_yes (K M la : Nat) (a : Value) (f : Nat → Nat) (w : World) (ha : Bs w a la f) (h1 : 1 ≤ (K : Int)) (h3 : (M : Int) ≤ 255 - (K : Int)) (hl : (la : Int) ≤ 400) (hp : Pows w) :
    Calls Tryd.prog 101 #[.agg #[.int .i64 K, .int .i64 M], a] w fun e w' =>
      ∃ t B, e = .returned (.tuple #[.slice (some ⟨t, 0, none⟩) (K + M) (K + M), .int .i64 0]) ∧ Kp (fun _ => False) w w' ∧ w.heap.size ≤ t ∧ (∀ i, i < K + M → w.heap.size ≤ B i) ∧ Mat w' t B (K + M) (lenOf K la) (enc K (cutAt K f la)) := by
  obtain ⟨pa, ba, oa, ca, rfl, hpa, hc, hf⟩ := ha
  obtain ⟨wa, hwa, ka, za, q1, q2⟩ := code_alloc w K M
  have HC : Hid (Calls _ _ _ wa _) := length_yes K M la wa h1 h3 hl
  obtain ⟨l1, l2⟩ := lenOf_bd (K := K) (size := la) (by omega) (by omega)
  have HSL : Hid (∀ i, i < la → seatAt K i < lenOf K la) := fun i hi => seatAt_lt (by omega) hi
  have HP : Hid (∀ k, k < la → pa = some ⟨ba, oa, none⟩) := hpa
  have HB : Hid (∀ k, k < la → w.cell? ⟨ba, oa + k, none⟩ = some (.int .u8 ((f k : Nat) : Int))) := hc
  have HF : Hid (∀ k, f k < 256) := hf
  have hmk1 := run_make_row' (P := Tryd.prog) 27 22 (.slice none 0 0) 24 Tryd.underlying27 info42 rfl .i64 .i64 K (by omega) (by omega)
  have hmk2 := run_make_row' (P := Tryd.prog) 22 5 (.int .u8 0) 1 Tryd.underlying22 info5 rfl .i64 .i64 (lenOf K la) (by omega) (by omega)
  obtain ⟨N, hN⟩ : ∃ x, x = lenOf K la := ⟨_, rfl⟩
  have HN : Hid (lenOf K la = N) := hN.symm
  rw [← hN] at HC l1 l2 HSL hmk2
  clear hpa hc hf hN
  have dN : ((N : Int) == 0) = false := beq_eq_false_iff_ne.2 (by omega)
  go_enter Tryd.func101, Tryd.ntmps101
  go_wp2_with fail
  rw [← hwa]
  refine HC.out.mono ?_
  rintro e w1 ⟨rfl, k1⟩
  have r1 := k1.cellv q1 id
  have r2 := k1.cellv q2 id
  have kk := ka.trans k1 (fun _ _ e => e)
  have hP0 := Part.start w1 K N (fun _ _ => 0)
  clear hwa HC q1 q2
  go_wp2
  clear hmk1
  go_loopg [24] K (fun gk i wr => ∃ (r : Nat) (B : Nat → Nat), r ≤ K ∧ gk = K - r ∧ i = .int .i64 r ∧ Part w1 wr w1.heap.size K N r B (fun _ _ => 0))
  case atStart => exact ⟨0, _, Nat.zero_le _, rfl, rfl, hP0⟩
  case round =>
    obtain ⟨r, B, hr, rfl, rfl, hP⟩ := hrel
    clear hP0
    by_cases hlt : (r : Int) < (K : Int)
    · have hst1 : ∀ o, (wr.alloc o).cell? ⟨w1.heap.size, r, none⟩ = some (heads2 B N r r) := fun o => (hP.top.alloc o).cell (by omega)
      have hst2 : ∀ o, (wr.alloc o).frozen? ⟨w1.heap.size, r, none⟩ = false := fun o => (hP.top.alloc o).frozen r
      have hnew : (wr.alloc (.cells (madeCells #[.int .u8 0] N) 5)).rowIs wr.heap.size 5 N (By (fun _ => 0)) := World.rowIs_made wr (.int .u8 0) N 5
      have hP1 := hP.step (Nat.le_refl _) ((Kp.refl _ _).alloc _) hnew
      clear hnew
      go_wp2
      go_roundg (K - (r + 1))
      case rel => exact ⟨r + 1, _, by omega, rfl, by go_num, hP1⟩
      case measure => omega
    · have e : r = K := by omega
      subst e
      have hP1 : Part w1 wr w1.heap.size r N r B (cutAt r f 0) := by rw [cutAt_zero]; exact hP
      clear hP hmk2
      go_wp2
      go_loopg [35] la (fun gk i wq => ∃ q : Nat, q ≤ la ∧ gk = la - q ∧ i = .int .i64 q ∧ Part w1 wq w1.heap.size r N r B (cutAt r f q))
      case atStart => exact ⟨0, Nat.zero_le _, rfl, rfl, hP1⟩
      case round =>
        obtain ⟨q, hq, rfl, rfl, hQ⟩ := hrel
        clear hP1
        by_cases hlq : (q : Int) < (la : Int)
        · obtain rfl := HP.out q (by omega)
          have c0 := hQ.kept.cellv (kk.cellv (HB.out q (by omega)) id) id
          have c1 := hQ.kept.cellv r1 id
          have c2 := hQ.kept.cellv r2 id
          have HS : Hid (Calls _ _ _ wr _) := seat_any r M q wr (by omega) (by omega) (by omega)
          go_wp2_with fail
          refine HS.out.mono ?_
          rintro e w3 ⟨rfl, k3⟩
          clear HS
          have sK := seatK_lt (K := r) (by omega) q
          have sA := HSL.out q (by omega)
          have hQ3 : Part w1 w3 w1.heap.size r N r B (cutAt r f q) := ⟨hQ.kept.trans k3 (fun _ _ e => e), k3.row hQ.top id, fun j hj => k3.row (hQ.row j hj) id, hQ.lo, hQ.inj⟩
          have hS := hQ3.setByte (Nat.le_refl _) (i := seatK r q) sK (seatAt r q) (f q)
          have HQ4 : Hid (Part _ _ _ _ _ _ _ _) := hS.congr (M' := cutAt r f (q + 1)) (fun i hi c _ => by
            rw [← cutAt_step r f q hi c]
            by_cases e : i = seatK r q
            · subst e; simp
            · simp [e])
          generalize seatK r q = SK at *
          generalize seatAt r q = SA at *
          have t1 := hQ3.top.cell (i := SK) (by omega)
          rw [show heads2 B N r SK = .slice (some ⟨B SK, 0, none⟩) N N from by simp [heads2, sK]] at t1
          have t2 := (hQ3.row SK (by omega)).cell (i := SA) (by omega)
          have t3 := (hQ3.row SK (by omega)).frozen SA
          have t4 : (SK : Int) < (r : Int) := by omega
          have t5 : (SA : Int) < (N : Int) := by omega
          clear hS hQ hQ3 c1 c2 c0
          go_wp2
          go_roundg (la - (q + 1))
          case rel => exact ⟨q + 1, by omega, rfl, by go_num, HQ4.out⟩
          case measure => omega
        · have e : q = la := by omega
          have hMt : Mat wr w1.heap.size B r N (cutAt r f la) := by subst e; exact hQ.mat (cutAt_lt HF.out _ _)
          have c1 := hQ.kept.cellv r1 id
          have c2 := hQ.kept.cellv r2 id
          have kw := kk.trans hQ.kept (fun _ _ e => e)
          have HE : Hid (Calls _ _ _ wr _) := encode_yes r M N (ofMat w1.heap.size B r N (cutAt r f la)) wr hMt.rd rfl (fun _ _ => rfl) (by omega) (by omega) (kw.pows hp id) (by omega) (by omega)
          clear hQ
          go_wp2_with fail
          refine HE.out.mono ?_
          rintro e w4 ⟨t4, B4, rfl, k4, h4, hB4, hM4⟩
          have hz := kw.size
          go_wp2
          go_ret2
          rw [HN.out]
          exact ⟨_, B4, rfl, kw.trans k4 (fun _ _ e => e), by omega, fun i hi => by have := hB4 i hi; omega, hM4⟩
end Go.Proofs.YtmncocmeafcpfaaDoor.Mf
