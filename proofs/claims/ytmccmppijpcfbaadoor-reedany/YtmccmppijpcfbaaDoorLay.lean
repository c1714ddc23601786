/- The walk of the law ReedAny: of any shards, as many as the data, all are told. -/
import Derived.Test.YtmccmppijpcfbaaDoorMk
namespace Go.Proofs.YtmccmppijpcfbaaDoor
open Go.RowKit Go.Deep

/-- copies of some shards, as far as r, their headers at ts -/
structure Sm (wz wr : World) (ts R N r : Nat) (M : Nat → Nat → Nat) (q : Nat → Bool) (B C : Nat → Nat) : Prop where
  kept : Kp (fun b => b = ts) wz wr
  top : wr.rowIs ts 22 R (mhead B N C q)
  off : ∀ j, r ≤ j → q j = false
  row : ∀ j, j < r → q j = true → ts < B j ∧ RowB wr (B j) (C j) N (M j)
theorem Sm.skip {wz wr : World} {ts R N r : Nat} {M : Nat → Nat → Nat} {q : Nat → Bool} {B C : Nat → Nat} (h : Sm wz wr ts R N r M q B C) : Sm wz wr ts R N (r + 1) M q B C :=
  ⟨h.kept, h.top, fun j hj => h.off j (by omega), fun j hj hq => h.row j (by
    rcases Nat.lt_or_ge j r with h1 | h1
    · exact h1
    · rw [h.off j h1] at hq; cases hq) hq⟩
theorem Sm.step {wz wr wq : World} {ts R N r b c : Nat} {M : Nat → Nat → Nat} {q : Nat → Bool} {B C : Nat → Nat} (h : Sm wz wr ts R N r M q B C) (k : Kp (fun _ => False) wr wq) (hb : wr.heap.size ≤ b) (hr : RowB wq b c N (M r)) :
    Sm wz (wq.setCell ⟨ts, r, none⟩ (.slice (some ⟨b, 0, none⟩) N c)) ts R N (r + 1) M (fun j => if j = r then true else q j) (fun j => if j = r then b else B j) (fun j => if j = r then c else C j) := by
  have htl := h.top.lt
  refine ⟨(h.kept.trans k (fun _ _ e => e.elim)).setCell (a := ⟨ts, r, none⟩) (fun _ => rfl) _, ((k.row h.top id).set r _).congr (fun j _ => ?_), fun j hj => ?_, fun j hj hq => ?_⟩
  · unfold mhead
    by_cases e : j = r <;> simp [e]
  · rw [if_neg (by omega)]; exact h.off j (by omega)
  · by_cases e : j = r
    · subst e
      simp only [if_true]
      exact ⟨by omega, hr.setOther (by show b ≠ ts; omega) _⟩
    · simp only [if_neg e] at hq ⊢
      obtain ⟨h1, h2⟩ := h.row j (by omega) hq
      exact ⟨h1, (h2.keep k id).setOther (by show B j ≠ ts; omega) _⟩

set_option maxRecDepth 100000 in
set_option maxHeartbeats 3200000 in
theorem reedAny_walk (k m n : Int) (a : Value) (la : Nat) (f : Nat → Nat) (mask : Int) (w : World) (ha : Bs w a la f) (hp : Pows w) :
    Calls Tryd.prog 5 #[.int .i64 k, .int .i64 m, .int .i64 n, a, .int .u64 mask] w fun e w' => e = .returned (.bool true) ∧ Kp (fun _ => False) w w' := by
  obtain ⟨K, M, N, ⟨b1, b2, b3, n1, n2⟩, hmade⟩ := madeX k m n
  obtain ⟨D, hD', hcall⟩ := hmade a la f w ha hp
  have HD : Hid (Calls _ _ _ w _) := hcall
  have hD : Hid (∀ i j, D i j < 256) := hD'
  clear hmade hcall hD'
  obtain ⟨pa, ba, oa, ca, rfl, hpa, hc, hf⟩ := ha
  clear hpa hc hf
  have hmk := run_make_row' (P := Tryd.prog) 26 22 (.slice none 0 0) 24 Tryd.underlying26 info42 rfl .i64 .i64 (K + M) (by omega) (by omega)
  rw [show ((K + M : Nat) : Int) = (K : Int) + (M : Int) from by simp] at hmk
  go_enter Tryd.func5, Tryd.ntmps5
  go_wp2_with fail
  refine HD.out.mono ?_
  rintro e w1 ⟨t, B, rfl, k1, ht, hB, hM⟩
  clear HD
  obtain ⟨wa, hwa, ka, za, q1, q2⟩ := code_alloc w1 K M
  have k1a := k1.trans ka (fun _ _ e => e)
  have hMa := hM.keep ka id (fun _ _ => id)
  have htl := hM.top.lt
  have hnn1 := not_nil ⟨t, 0, none⟩ (K + M) (K + M)
  obtain ⟨wz, hwz⟩ : ∃ x, x = wa.alloc (.cells (madeCells #[.slice none 0 0] (K + M)) 22) := ⟨_, rfl⟩
  have kz : Kp (fun _ => False) wa wz := by rw [hwz]; exact (Kp.refl _ _).alloc _
  have hS0 : Sm wz wz wa.heap.size (K + M) N 0 (enc K D) (fun _ => false) (fun _ => 0) (fun _ => 0) := by
    refine ⟨Kp.refl _ _, ?_, fun _ _ => rfl, fun _ h => absurd h (Nat.not_lt_zero _)⟩
    rw [hwz]
    exact (World.rowIs_made wa _ (K + M) 22).congr (fun j _ => by simp [mhead])
  have kwz := k1a.trans kz (fun _ _ e => e)
  have p1 := kz.cellv q1 id
  have p2 := kz.cellv q2 id
  have hMz := hMa.keep kz id (fun _ _ => id)
  have hBl : ∀ i, i < K + M → B i < w1.heap.size := fun i hi => (hM.row i hi).lt
  go_wp2
  rw [← hwa, ← hwz]
  rw [za] at hS0
  clear hwa hwz hnn1 hM hMa hmk
  go_loopg [14, 33] (K + M) (fun gk v i wr => ∃ (r : Nat) (q : Nat → Bool) (Bs Cs : Nat → Nat), r ≤ K + M ∧ gk = K + M - r ∧ i = .int .i64 r ∧ v = .int .i64 (cnt q r : Int) ∧ K ≤ cnt q r + (K + M - r) ∧ Sm wz wr (w1.heap.size + 1) (K + M) N r (enc K D) q Bs Cs)
  case atStart => exact ⟨0, _, _, _, Nat.zero_le _, rfl, rfl, rfl, by omega, hS0⟩
  case round =>
    obtain ⟨r, q, Bs, Cs, hr, rfl, rfl, rfl, hcK, hS⟩ := hrel
    clear hS0
    have s1 := hS.kept.cellv p1 (by show w1.heap.size ≠ w1.heap.size + 1; omega)
    have s2 := hS.kept.cellv p2 (by show w1.heap.size ≠ w1.heap.size + 1; omega)
    by_cases hlt : (r : Int) < (K : Int) + (M : Int)
    · have e0 := hS.kept.cellv (hMz.top.cell (i := r) (by omega)) (by show t ≠ w1.heap.size + 1; omega)
      have hMr : Mat wr t B (K + M) N (enc K D) := hMz.keep hS.kept (by omega) (fun i hi => by have := hBl i hi; omega)
      have HCl : Hid (∀ c, Calls _ _ #[.slice _ _ c] wr _) := fun c => clone_any (ofMat t B (K + M) N (enc K D)) r c wr hMr.rd (show r < K + M by omega) (show N ≤ 140737488355328 by omega)
      have hcy : Hid (cnt (fun j => if j = r then true else q j) (r + 1) = cnt q r + 1) := by
        show _ = _
        rw [cnt_succ]
        simp only [if_true]
        rw [cnt_congr (q' := q) (fun j hj => by rw [if_neg (by omega)])]
      have hcn : Hid (cnt q (r + 1) = cnt q r) := by
        show _ = _
        rw [cnt_succ, hS.off r (Nat.le_refl _)]; rfl
      have hcl := cnt_le q r
      obtain ⟨c, hce⟩ : ∃ x, x = cnt q r := ⟨_, rfl⟩
      have HCE : Hid (cnt q r = c) := hce.symm
      rw [← hce] at hcK hcl
      rw [← hce]
      clear hce hMr
      have HG : Hid (∀ w2, Kp (fun _ => False) wr w2 → w2.frozen? ⟨w1.heap.size + 1, r, none⟩ = false ∧ w2.cell? ⟨w1.heap.size + 1, r, none⟩ = some (mhead Bs N Cs q r)) := fun w2 k => ⟨(k.row hS.top id).frozen r, (k.row hS.top id).cell (by omega)⟩
      by_cases hbit : (bits .and .u64 (mask / 2 ^ r) 1 == 1) = true
      · go_wp2_with fail
        refine (HCl.out _).mono ?_
        rintro e w2 ⟨p, c', b, rfl, k2, hrow⟩
        obtain ⟨rfl, hb, _, hRB⟩ := hrow (show 0 < N by omega)
        obtain ⟨g3, g4⟩ := HG.out w2 k2
        have HS2 : Hid _ := hS.step k2 hb hRB
        clear hS hRB HCl
        go_wp2
        go_roundg (K + M - (r + 1))
        case rel => exact ⟨r + 1, _, _, _, by omega, rfl, by go_num, by rw [hcy.out, HCE.out]; simp, by rw [hcy.out, HCE.out]; omega, HS2.out⟩
        case measure => omega
      · have hbit' : (bits .and .u64 (mask / 2 ^ r) 1 == 1) = false := by simpa using hbit
        clear hbit
        by_cases hle : (K : Int) + (M : Int) - (r : Int) ≤ (K : Int) - (c : Int)
        · have d3 : decide ((K : Int) + (M : Int) - (r : Int) ≤ (K : Int) - (c : Int)) = true := by simp; omega
          go_wp2_with fail
          refine (HCl.out _).mono ?_
          rintro e w2 ⟨p, c', b, rfl, k2, hrow⟩
          obtain ⟨rfl, hb, _, hRB⟩ := hrow (show 0 < N by omega)
          obtain ⟨g3, g4⟩ := HG.out w2 k2
          have HS2 : Hid _ := hS.step k2 hb hRB
          clear hS hRB HCl
          go_wp2
          go_roundg (K + M - (r + 1))
          case rel => exact ⟨r + 1, _, _, _, by omega, rfl, by go_num, by rw [hcy.out, HCE.out]; simp, by rw [hcy.out, HCE.out]; omega, HS2.out⟩
          case measure => omega
        · have d3 : decide ((K : Int) + (M : Int) - (r : Int) ≤ (K : Int) - (c : Int)) = false := by simp; omega
          have HS2 : Hid _ := hS.skip
          clear hS HCl
          go_wp2
          go_roundg (K + M - (r + 1))
          case rel => exact ⟨r + 1, _, _, _, by omega, rfl, by go_num, by rw [hcn.out, HCE.out], by rw [hcn.out, HCE.out]; omega, HS2.out⟩
          case measure => omega
    · have e : r = K + M := by omega
      subst e
      have hcc : K ≤ cnt q (K + M) := by omega
      have hRd : Rd wr (maskSh (w1.heap.size + 1) (K + M) Bs N Cs (enc K D) q) := mask_rd hS.top (fun i hi hq c hc => (hS.row i hi hq).2.cell hc) (fun i j => enc_lt _ _ _ _)
      have kw : Kp (fun _ => False) w wr := kwz.trans hS.kept (fun b hb e => by have := k1.size; omega)
      have hln : len0 (mlen q N) (K + M) = N := mask_len0 q n1 _ (by omega)
      have HDc : Hid (Calls _ _ _ wr _) := decode_any K M _ wr hRd rfl (by omega) (by omega) (kw.pows hp id) (by show ((len0 (mlen q N) (K + M) : Nat) : Int) ≤ _; omega)
      have hMr : Mat wr t B (K + M) N (enc K D) := hMz.keep hS.kept (by omega) (fun i hi => by have := hBl i hi; omega)
      have HCC : Hid (K ≤ cnt q (K + M)) := hcc
      have HLN : Hid (len0 (mlen q N) (K + M) = N) := hln
      have HMr : Hid (Mat wr t B (K + M) N (enc K D)) := hMr
      obtain ⟨c, hce⟩ : ∃ x, x = cnt q (K + M) := ⟨_, rfl⟩
      rw [← hce]
      clear hce hcK hcc hS hRd hln hMr
      go_wp2_with fail
      refine HDc.out.mono ?_
      rw [mask_alike _ n1, mask_count _ n1]
      rintro e w2 ⟨k2, ⟨hal, rfl⟩ | ⟨_, hfew, rfl⟩ | ⟨_, hK2, t2, B2, W, rfl, _, _, hE, hMt⟩⟩
      · cases hal
      · have := HCC.out; omega
      · have hMt' : Mat w2 t2 B2 (K + M) N (decM K (enc K D) (firstK (mlen q N) (K + M) K) W (fun r => r)) := by
          have h := hMt
          rw [show len0 (maskSh (w1.heap.size + 1) (K + M) Bs N Cs (enc K D) q).L (K + M) = N from HLN.out] at h
          exact h
        have HV : Hid (∀ i p, decM K (enc K D) (firstK (mlen q N) (K + M) K) W (fun r => r) i p = enc K D i p) := fun i p => decM_enc hD.out hE (fun j _ => rfl) (fun r => r) i
        have u1 := k2.cellv s1 id
        have u2 := k2.cellv s2 id
        have kw2 := kw.trans k2 (fun _ _ e => e)
        have HSm : Hid (Calls _ _ _ w2 _) := sameX _ _ (K + M) N _ _ w2 hMt'.mx (HMr.out.keep k2 id (fun _ _ => id)).mx (fun i hi j hj => HV.out i j) (by omega)
        have HRt : Hid (Calls _ _ _ w2 _) := right_all K M N (ofMat t2 B2 (K + M) N _) w2 hMt'.rd rfl (fun _ _ => rfl) (by omega) (by omega) (kw2.pows hp id) (by omega) (by omega) (by show (K : Int) ≤ ((K + M : Nat) : Int); omega) true
          (fun _ i hi p hp => by
            show enc K (decM K (enc K D) (firstK (mlen q N) (K + M) K) W (fun r => r)) i p = decM K (enc K D) (firstK (mlen q N) (K + M) K) W (fun r => r) i p
            rw [HV.out i p]
            exact enc_congr (fun j hj => by rw [HV.out j p]; exact enc_data hD.out hj p) i) (fun h => by cases h)
        clear HDc hMt hMt' hE
        go_wp2_with fail
        refine HSm.out.mono ?_
        rintro e w5 ⟨rfl, hw⟩
        obtain rfl := hw.symm
        go_wp2_with fail
        refine HRt.out.mono ?_
        rintro e w6 ⟨rfl, k6⟩
        go_wp2
        go_ret
        exact ⟨rfl, kw2.trans k6 (fun _ _ e => e)⟩
end Go.Proofs.YtmccmppijpcfbaaDoor
