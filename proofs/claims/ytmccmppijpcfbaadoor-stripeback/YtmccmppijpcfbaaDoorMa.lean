/- The walk of the verifier's made: a small code, and the shards of data of a length. -/
import Derived.Test.YtmccmppijpcfbaaDoorR3
import Derived.Test.YtmccmppijpcfbaaDoorLan
import Derived.RegionTactic
namespace Go.Proofs.YtmccmppijpcfbaaDoor
open Go.RowKit Go.Deep

def nn10 (n : Int) : Nat := 1 + ((n % 18446744073709551616) % 10).toNat
theorem nn10_bd (n : Int) : 1 ≤ nn10 n ∧ nn10 n ≤ 10 := by unfold nn10; omega
theorem nn10_eq (n : Int) : wrap64 (1 + wrap64 ((IntKind.u64.wrap n).tmod 10)) = (nn10 n : Int) := by
  rw [u64_wrap, Int.tmod_eq_emod_of_nonneg (by omega)]
  unfold wrap64 nn10; omega

/-- one byte of a row that is made -/
theorem Part.setByte {w wr : World} {t n C r : Nat} {B : Nat → Nat} {M : Nat → Nat → Nat} (h : Part w wr t n C r B M) (ht : w.heap.size ≤ t) {i : Nat} (hi : i < r) (j x : Nat) :
    Part w (wr.setCell ⟨B i, j, none⟩ (.int .u8 ((x : Nat) : Int))) t n C r B (fun i' => if i' = i then (fun c => if c = j then x else M i c) else M i') := by
  have hlo := h.lo i hi
  refine ⟨h.kept.setCell (fun hh => absurd hh (by show ¬ B i < w.heap.size; omega)) _, h.top.setOther (by show t ≠ B i; omega) _, fun q hq => ?_, h.lo, h.inj⟩
  by_cases e : q = i
  · subst e
    refine ((h.row q hq).set j _).congr (fun c _ => ?_)
    simp only [By, if_true]
    split <;> rfl
  · refine ((h.row q hq).setOther (by show B q ≠ B i; exact fun e' => e (h.inj q i hq hi e')) _).congr (fun c _ => ?_)
    simp only [By, if_neg e]
theorem Part.drewN {w wr : World} {t n C r : Nat} {B : Nat → Nat} {M : Nat → Nat → Nat} (h : Part w wr t n C r B M) (m : Nat) : Part w (wr.drewN m) t n C r B M :=
  ⟨h.kept.drewN m, rowIs_drewN h.top m, fun j hj => rowIs_drewN (h.row j hj) m, h.lo, h.inj⟩
theorem Part.congr {w wr : World} {t n C r : Nat} {B : Nat → Nat} {M M' : Nat → Nat → Nat} (h : Part w wr t n C r B M) (e : ∀ i, i < r → ∀ c, c < C → M i c = M' i c) : Part w wr t n C r B M' :=
  ⟨h.kept, h.top, fun j hj => (h.row j hj).congr (fun c hc => by simp only [By]; rw [e j hj c hc]), h.lo, h.inj⟩
theorem Mat.mxTake {w : World} {t : Nat} {B : Nat → Nat} {R C : Nat} {M : Nat → Nat → Nat} (h : Mat w t B R C M) {r : Nat} (hr : r ≤ R) (cap : Nat) : Mx w (.slice (some ⟨t, 0, none⟩) r cap) r C M :=
  ⟨⟨some ⟨t, 0, none⟩, r, cap, t, 0, fun r => some ⟨B r, 0, none⟩, fun _ => C, fun _ => C, B, fun _ => 0, M⟩, rfl,
    ⟨fun _ => rfl, fun i hi => by have := h.top.cell (i := i) (by simp at hi; omega); simpa using this, fun _ _ _ _ => rfl, fun i hi c hc => by have := (h.row i (by simp at hi; omega)).cell hc; simpa using this, h.byte⟩, rfl, fun _ _ => rfl, rfl⟩

set_option maxRecDepth 100000 in
set_option maxHeartbeats 3200000 in
theorem made_any (k m n : Int) (a : Value) (la : Nat) (f : Nat → Nat) (w : World) (ha : Bs w a la f) (hp : Pows w) :
    Calls Tryd.prog 9 #[.int .i64 k, .int .i64 m, .int .i64 n, a] w fun e w' =>
      ∃ t B, e = .returned (.tuple #[.agg #[.int .i64 (kk12 k : Int), .int .i64 (mm6 m : Int)], .slice (some ⟨t, 0, none⟩) (kk12 k + mm6 m) (kk12 k + mm6 m)]) ∧ Kp (fun _ => False) w w' ∧ w.heap.size ≤ t ∧ (∀ i, i < kk12 k + mm6 m → w.heap.size ≤ B i) ∧ Mat w' t B (kk12 k + mm6 m) (nn10 n) (enc (kk12 k) (sq f la (nn10 n))) := by
  have HK : Hid (_ = _) := kk12_eq k
  have HM : Hid (_ = _) := mm6_eq m
  have HN : Hid (_ = _) := nn10_eq n
  obtain ⟨b1, b2⟩ := kk12_bd k
  have b3 := mm6_bd m
  obtain ⟨n1, n2⟩ := nn10_bd n
  obtain ⟨pa, ba, oa, ca, rfl, hpa, hc, hf⟩ := ha
  have hmk1 := run_make_row' (P := Tryd.prog) 26 22 (.slice none 0 0) 24 Tryd.underlying26 info42 rfl .i64 .i64 (kk12 k) (by omega) (by omega)
  rw [← HK.out] at hmk1
  go_enter Tryd.func9, Tryd.ntmps9
  go_wp2
  rw [HK.out, HM.out, HN.out]
  clear HK HM HN hmk1
  obtain ⟨K, hKe⟩ : ∃ x, x = kk12 k := ⟨_, rfl⟩
  obtain ⟨M, hMe⟩ : ∃ x, x = mm6 m := ⟨_, rfl⟩
  obtain ⟨N, hNe⟩ : ∃ x, x = nn10 n := ⟨_, rfl⟩
  have HKe : Hid (kk12 k = K) := hKe.symm
  have HMe : Hid (mm6 m = M) := hMe.symm
  have HNe : Hid (nn10 n = N) := hNe.symm
  rw [← hKe] at b1 b2
  rw [← hMe] at b3
  rw [← hNe] at n1 n2
  rw [← hKe, ← hMe, ← hNe]
  clear hKe hMe hNe
  obtain ⟨w8, hw8⟩ : ∃ x, x = w.alloc (.cells #[.int .i64 0, .int .i64 0] 25) := ⟨_, rfl⟩
  obtain ⟨w9, hw9⟩ : ∃ x, x = w8.alloc (.cells #[.int .i64 (K : Int), .int .i64 (M : Int)] 25) := ⟨_, rfl⟩
  rw [← hw8, ← hw9]
  have k9 : Kp (fun _ => False) w w9 := by rw [hw9, hw8]; exact ((Kp.refl _ _).alloc _).alloc _
  have z8 : w8.heap.size = w.heap.size + 1 := by rw [hw8]; simp
  have z9 : w9.heap.size = w.heap.size + 2 := by rw [hw9]; simp [z8]
  have r8 : w9.rowIs w.heap.size 25 2 (fun _ => .int .i64 0) := by
    rw [hw9, hw8]
    exact (World.rowIs_alloc w #[.int .i64 0, .int .i64 0] 25 (fun _ => .int .i64 0) (fun i hi => by
      have : i = 0 ∨ i = 1 := by simp at hi; omega
      rcases this with rfl | rfl <;> rfl)).alloc _
  have r10 : w9.rowIs (w.heap.size + 1) 25 2 (fun i => if i = 0 then .int .i64 (K : Int) else .int .i64 (M : Int)) := by
    rw [hw9, ← z8]
    exact World.rowIs_alloc w8 #[.int .i64 (K : Int), .int .i64 (M : Int)] 25 _ (fun i hi => by
      have : i = 0 ∨ i = 1 := by simp at hi; omega
      rcases this with rfl | rfl <;> rfl)
  have hP0 := Part.start w9 K N (sq f la N)
  rw [z9] at hP0
  have HC : Hid (∀ k, k < la → w.cell? ⟨ba, oa + k, none⟩ = some (.int .u8 ((f k : Nat) : Int))) := hc
  have HP : Hid (∀ k, k < la → pa = some ⟨ba, oa, none⟩) := hpa
  have HF : Hid (∀ k, f k < 256) := hf
  clear hw8 hw9 z8 hc hpa hf
  have hmk2 := run_make_row' (P := Tryd.prog) 22 5 (.int .u8 0) 1 Tryd.underlying22 info5 rfl .i64 .i64 N (by omega) (by omega)
  go_loopg [36] K (fun gk i wr => ∃ (r : Nat) (B : Nat → Nat), r ≤ K ∧ gk = K - r ∧ i = .int .i64 r ∧ Part w9 wr (w.heap.size + 2) K N r B (sq f la N))
  case atStart => exact ⟨0, _, Nat.zero_le _, rfl, rfl, hP0⟩
  case round =>
    obtain ⟨r, B, hr, rfl, rfl, hP⟩ := hrel
    clear hP0
    obtain ⟨wr0, rfl⟩ : ∃ x, x = wr := ⟨_, rfl⟩
    by_cases hlt : (r : Int) < (K : Int)
    · have hst1 : ∀ o, (wr0.alloc o).cell? ⟨w.heap.size + 2, r, none⟩ = some (heads2 B N r r) := fun o => (hP.top.alloc o).cell (by omega)
      have hst2 : ∀ o, (wr0.alloc o).frozen? ⟨w.heap.size + 2, r, none⟩ = false := fun o => (hP.top.alloc o).frozen r
      have hnew : (wr0.alloc (.cells (madeCells #[.int .u8 0] N) 5)).rowIs wr0.heap.size 5 N (By ((fun i => if i = r then (fun _ => 0) else sq f la N i) r)) := (World.rowIs_made wr0 (.int .u8 0) N 5).congr (fun j _ => by simp [By])
      have hP1 := (hP.congr (M' := fun i => if i = r then (fun _ => 0) else sq f la N i) (fun i hi c _ => by rw [if_neg (by omega)])).step (by omega) ((Kp.refl _ _).alloc _) hnew
      clear hnew
      go_wp2
      clear hst1 hst2
      obtain ⟨B1, hB1⟩ : ∃ x, x = (fun i => if i = r then wr0.heap.size else B i) := ⟨_, rfl⟩
      rw [← hB1] at hP1
      clear hB1
      go_loopg [49] N (fun gk i wq => ∃ q : Nat, q ≤ N ∧ gk = N - q ∧ i = .int .i64 q ∧ Part w9 wq (w.heap.size + 2) K N (r + 1) B1 (fun i => if i = r then upTo (sq f la N r) q else sq f la N i))
      case atStart => exact ⟨0, Nat.zero_le _, rfl, rfl, by rw [upTo_zero]; exact hP1⟩
      case round =>
        obtain ⟨q, hq, rfl, rfl, hQ⟩ := hrel
        clear hP1 hP
        by_cases hlq : (q : Int) < (N : Int)
        · have hrn : (r : Int) * (N : Int) ≤ 120 := by
            have : r * N ≤ 12 * 10 := Nat.mul_le_mul (by omega) (by omega)
            have e : ((r * N : Nat) : Int) = (r : Int) * (N : Int) := by simp
            omega
          have hrn0 : 0 ≤ (r : Int) * (N : Int) := Int.mul_nonneg (by omega) (by omega)
          have ecast : (r : Int) * (N : Int) = ((r * N : Nat) : Int) := by simp
          by_cases hin : r * N + q < la
          · obtain rfl := HP.out _ hin
            have hcell := hQ.kept.cellv (k9.cellv (HC.out _ hin) id) id
            have t1 := hQ.top.cell (i := r) (by omega)
            rw [show heads2 B1 N (r + 1) r = .slice (some ⟨B1 r, 0, none⟩) N N from by simp [heads2]] at t1
            have e2 := (hQ.row r (by omega)).cell (i := q) (by omega)
            have e3 := (hQ.row r (by omega)).frozen q
            have hS := fun m => (hQ.drewN m).setByte (by omega) (i := r) (by omega) q (f (r * N + q))
            have HS : Hid (∀ m, Part _ _ _ _ _ _ _ _) := fun m => (hS m).congr (M' := fun i => if i = r then upTo (sq f la N r) (q + 1) else sq f la N i) (fun i hi c _ => by
              by_cases e : i = r
              · simp only [if_pos e, if_true, upTo_succ]
                split
                · rename_i e2; simp [sq, hin]
                · rfl
              · simp only [if_neg e])
            have hin' : (r : Int) * (N : Int) + (q : Int) < (la : Int) := by omega
            clear ecast hS
            go_wp2
            go_region
            all_goals
              go_wp2
              go_roundg (N - (q + 1))
              case rel => exact ⟨q + 1, by omega, rfl, by go_num, HS.out _⟩
              case measure => omega
          · have hin' : ¬ (r : Int) * (N : Int) + (q : Int) < (la : Int) := by omega
            have hz0' : Hid (sq f la N r q = 0) := if_neg hin
            clear hin ecast
            go_wp2
            go_roundg (N - (q + 1))
            case rel => exact ⟨q + 1, by omega, rfl, by go_num, hQ.congr (fun i _ c _ => by
              by_cases e : i = r
              · simp only [if_pos e]; rw [upTo_skip _ _ _ hz0'.out]
              · simp only [if_neg e])⟩
            case measure => omega
        · have e : q = N := by omega
          have HQ : Hid (Part w9 wr (w.heap.size + 2) K N (r + 1) B1 (sq f la N)) := hQ.congr (fun i _ c hc => by
            by_cases e' : i = r
            · subst e'; simp only [if_true, upTo]; rw [if_pos (by omega)]
            · simp only [if_neg e'])
          clear e hQ
          go_wp2
          go_roundg (K - (r + 1))
          case rel => exact ⟨r + 1, _, by omega, rfl, by go_num, HQ.out⟩
          case measure => omega
    · have e : r = K := by omega
      have hMt : Mat wr0 (w.heap.size + 2) B K N (sq f la N) := by subst e; exact hP.mat (sq_lt HF.out la N)
      have k29 := hP.kept
      have kw := k9.trans hP.kept (fun _ _ e => e)
      have HE : Hid (Calls _ _ _ wr0 _) := encode_yes K M N (ofMat (w.heap.size + 2) B K N (sq f la N)) wr0 hMt.rd rfl (fun _ _ => rfl) (by omega) (by omega) (kw.pows hp id) (by omega) (by omega)
      have c1 := (k29.row r10 id).cell (i := 0) (by omega)
      have c2 := (k29.row r10 id).cell (i := 1) (by omega)
      simp only [if_true, if_neg Nat.one_ne_zero] at c1 c2
      have htz := hMt.top.lt
      clear hmk2 hP
      go_wp2_with fail
      refine HE.out.mono ?_
      rintro e w1 ⟨t, Bt, rfl, k1, ht, hBt, hMe⟩
      have d1 := k1.cellv c1 id
      have d2 := k1.cellv c2 id
      have hneq' : (((K + M : Nat) : Int) != (K : Int) + (M : Int)) = false := by rw [show ((K + M : Nat) : Int) = (K : Int) + (M : Int) from by simp]; exact bne_self_eq_false _
      have hneq : ((K : Int) + (M : Int) != (K : Int) + (M : Int)) = false := bne_self_eq_false _
      have hle : (K : Int) ≤ ((K + M : Nat) : Int) := by omega
      have HS : Hid (∀ cap, Calls _ _ #[.slice _ _ cap, _] w1 _) := fun cap => sameX (.slice (some ⟨t, 0, none⟩) K cap) (.slice (some ⟨w.heap.size + 2, 0, none⟩) K K) K N _ _ w1 (hMe.mxTake (by omega) cap) (hMt.mx.keep k1) (fun i hi j hj => enc_data (sq_lt HF.out la N) hi j) (by omega)
      have r8' := k1.row (k29.row r8 id) id
      have g1 := r8'.cell (i := 0) (by omega)
      have g2 := r8'.cell (i := 1) (by omega)
      have g3 := r8'.frozen 0
      have g4 := r8'.frozen 1
      clear HE c1 c2
      go_wp2_with fail
      refine (HS.out _).mono ?_
      rintro e w2 ⟨rfl, hw⟩
      obtain rfl := hw.symm
      clear HS
      have hfin := (r8'.set 0 (.int .i64 (K : Int))).set 1 (.int .i64 (M : Int))
      have f1 := hfin.cell (i := 0) (by omega)
      have f2 := hfin.cell (i := 1) (by omega)
      simp only [if_true, if_neg Nat.zero_ne_one] at f1 f2
      go_wp2
      refine bodyPost_ret (v := .tuple #[.agg #[.int .i64 (K : Int), .int .i64 (M : Int)], .slice (some ⟨t, 0, none⟩) (K + M) (K + M)]) (by simp [results, Tryd.results9, go_sem, f1, f2]) rfl ?_
      rw [HKe.out, HMe.out, HNe.out]
      have kf : Kp (fun b => b = w.heap.size) w1 ((w1.setCell ⟨w.heap.size, 0, none⟩ (.int .i64 (K : Int))).setCell ⟨w.heap.size, 1, none⟩ (.int .i64 (M : Int))) := ((Kp.refl (fun b => b = w.heap.size) w1).setCell (a := ⟨w.heap.size, 0, none⟩) (fun _ => rfl) _).setCell (a := ⟨w.heap.size, 1, none⟩) (fun _ => rfl) _
      exact ⟨t, Bt, rfl, (kw.trans k1 (fun _ _ e => e)).trans kf (fun b hb e => by omega), by omega, fun i hi => by have := hBt i hi; omega, hMe.keep kf (by omega) (fun i hi => by have := hBt i hi; omega)⟩
theorem not_nil (p : Addr) (n c : Nat) (w : World) : (binOp .eql 26 (.slice (some p) n c) (.slice none 0 0)).run Tryd.prog w = .ok (.bool false) w := by rfl

/-- what the laws take of made -/
theorem madeX (k m n : Int) : ∃ K M N : Nat, (1 ≤ K ∧ K ≤ 12 ∧ M ≤ 5 ∧ 1 ≤ N ∧ N ≤ 10) ∧ ∀ (a : Value) (la : Nat) (f : Nat → Nat) (w : World), Bs w a la f → Pows w → ∃ D : Nat → Nat → Nat, (∀ i j, D i j < 256) ∧
    Calls Tryd.prog 9 #[.int .i64 k, .int .i64 m, .int .i64 n, a] w fun e w' =>
      ∃ t B, e = .returned (.tuple #[.agg #[.int .i64 (K : Int), .int .i64 (M : Int)], .slice (some ⟨t, 0, none⟩) (K + M) (K + M)]) ∧ Kp (fun _ => False) w w' ∧ w.heap.size ≤ t ∧ (∀ i, i < K + M → w.heap.size ≤ B i) ∧ Mat w' t B (K + M) N (enc K D) :=
  ⟨kk12 k, mm6 m, nn10 n, ⟨(kk12_bd k).1, (kk12_bd k).2, mm6_bd m, (nn10_bd n).1, (nn10_bd n).2⟩, fun a la f w ha hp => ⟨sq f la (nn10 n), fun i j => sq_lt (by obtain ⟨_, _, _, _, _, _, _, hf⟩ := ha; exact hf) la _ i j, made_any k m n a la f w ha hp⟩⟩
/-- the code in a variable of its own -/
theorem code_alloc (w : World) (K M : Int) : ∃ wa, wa = w.alloc (.cells #[.int .i64 K, .int .i64 M] 25) ∧ Kp (fun _ => False) w wa ∧ wa.heap.size = w.heap.size + 1 ∧ wa.cell? ⟨w.heap.size, 0, none⟩ = some (.int .i64 K) ∧ wa.cell? ⟨w.heap.size, 1, none⟩ = some (.int .i64 M) :=
  ⟨_, rfl, (Kp.refl _ _).alloc _, by simp, by go_simp, by go_simp⟩
end Go.Proofs.YtmccmppijpcfbaaDoor
