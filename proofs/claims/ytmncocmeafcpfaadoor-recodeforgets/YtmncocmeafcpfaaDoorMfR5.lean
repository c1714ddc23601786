/- The walks of reed.firstThere, reckon, Decode and Repair. -/
import Derived.Test.YtmncocmeafcpfaaDoorMfR4
import Derived.Test.YtmncocmeafcpfaaDoorMfLan
import Derived.Test.YtmncocmeafcpfaaDoorMfMa
namespace Go.Proofs.YtmncocmeafcpfaaDoor.Mf
open Go.RowKit Go.Deep

/-- the places of the first K that are there -/
def firstK (L : Nat → Nat) (n K : Nat) : List Nat := (thereTo L n).take K
theorem firstK_len {L : Nat → Nat} {n K : Nat} (h : K ≤ (thereTo L n).length) : (firstK L n K).length = K := by unfold firstK; rw [List.length_take]; omega
theorem firstK_mem {L : Nat → Nat} {n K r : Nat} (h : r ∈ firstK L n K) : r < n ∧ 0 < L r := thereTo_mem.1 (List.mem_of_mem_take h)
theorem getD_mem {xs : List Nat} {j : Nat} (h : j < xs.length) : xs.getD j 0 ∈ xs := by
  rw [List.getD_eq_getElem?_getD, List.getElem?_eq_getElem h]; exact List.getElem_mem h
theorem firstK_inc {L : Nat → Nat} {n K : Nat} (j j' : Nat) (h1 : j < j') (h2 : j' < (firstK L n K).length) : (firstK L n K).getD j 0 < (firstK L n K).getD j' 0 := by
  have hp : (firstK L n K).Pairwise (· < ·) := (List.Pairwise.filter _ (List.pairwise_lt_range)).sublist (List.take_sublist _ _)
  rw [List.getD_eq_getElem?_getD, List.getElem?_eq_getElem (by omega), List.getD_eq_getElem?_getD, List.getElem?_eq_getElem h2]
  exact List.pairwise_iff_getElem.1 hp j j' (by omega) h2 h1
theorem alike_len {L : Nat → Nat} {n r : Nat} (h : alikeTo L n n = true) (hr : r < n) (h0 : 0 < L r) : L r = len0 L n := by
  have := of_decide_eq_true h r hr
  omega

set_option maxRecDepth 100000 in
set_option maxHeartbeats 1600000 in
theorem firstThere_any (K M : Nat) (s : Sh) (w : World) (hs : Rd w s) (hG : s.G = K + M) (h1 : 1 ≤ (K : Int)) (h3 : (M : Int) ≤ 255 - (K : Int)) :
    Calls Tryd.prog 113 #[.agg #[.int .i64 K, .int .i64 M], .slice s.g (K + M) s.cap] w fun e w' => Kp (fun _ => False) w w' ∧
      ((alikeTo s.L (K + M) (K + M) = false ∧ e = .returned (.tuple #[.slice none 0 0, .int .i64 1])) ∨
       (alikeTo s.L (K + M) (K + M) = true ∧ (thereTo s.L (K + M)).length < K ∧ e = .returned (.tuple #[.slice none 0 0, .int .i64 30])) ∨
       (alikeTo s.L (K + M) (K + M) = true ∧ K ≤ (thereTo s.L (K + M)).length ∧ ∃ v, e = .returned (.tuple #[v, .int .i64 0]) ∧ Nx w w' v (firstK s.L (K + M) K))) := by
  obtain ⟨wa, hwa, ka, za, q1, q2⟩ := code_alloc w K M
  have HC : Hid (Calls _ _ _ wa _) := can_yes K M wa h1 (by omega) h3
  have hneq' : (((K + M : Nat) : Int) != (K : Int) + (M : Int)) = false := by rw [show ((K + M : Nat) : Int) = (K : Int) + (M : Int) from by simp]; exact bne_self_eq_false _
  have hneq : ((K : Int) + (M : Int) != (K : Int) + (M : Int)) = false := bne_self_eq_false _
  go_enter Tryd.func113, Tryd.ntmps113
  go_wp2_with fail
  rw [← hwa]
  refine HC.out.mono ?_
  rintro e w1 ⟨rfl, k1⟩
  have r1 := k1.cellv q1 id
  have r2 := k1.cellv q2 id
  have kk := ka.trans k1 (fun _ _ e => e)
  clear HC q1 q2 hwa
  have HK : Hid (Calls _ _ _ w1 _) := look_any s w1 (hs.keep kk) (by omega) (by omega)
  rw [hG] at HK
  go_wp2_with fail
  refine HK.out.mono ?_
  rintro e w2 ⟨v, rfl, k2, hN⟩
  obtain ⟨pa, ba, cv, rfl, hx1, hx2⟩ := hN
  have s1 := k2.cellv r1 id
  have s2 := k2.cellv r2 id
  have kk2 := kk.trans k2 (fun _ _ e => e)
  have hsz := kk.size
  clear HK r1 r2 hneq hneq'
  by_cases hal : alikeTo s.L (K + M) (K + M) = true
  · rw [hal]
    by_cases hfew : (thereTo s.L (K + M)).length < K
    · have d1 : decide (((thereTo s.L (K + M)).length : Int) < (K : Int)) = true := by simp; omega
      have HF : Hid ((thereTo s.L (K + M)).length < K) := hfew
      have hfew' : ((thereTo s.L (K + M)).length : Int) < (K : Int) := by omega
      clear hx1 hx2
      go_wp2
      go_ret2
      exact ⟨kk2, Or.inr (Or.inl ⟨hal, HF.out, rfl⟩)⟩
    · have hK : K ≤ (thereTo s.L (K + M)).length := by omega
      obtain ⟨rfl, hb, hcv⟩ := hx1 (fun e => by rw [e] at hK; simp at hK; omega)
      have hN : Hid (Nx w w2 (.slice (some ⟨ba, 0, none⟩) K cv) (firstK s.L (K + M) K)) := ⟨some ⟨ba, 0, none⟩, ba, cv, by rw [firstK_len hK], fun _ => ⟨rfl, by omega, by rw [firstK_len hK]; omega⟩, fun j hj => by
        rw [firstK_len hK] at hj
        rw [hx2 j (by omega)]
        unfold firstK
        rw [List.getD_eq_getElem?_getD, List.getD_eq_getElem?_getD, List.getElem?_take_of_lt hj]⟩
      have HK2 : Hid (K ≤ (thereTo s.L (K + M)).length) := hK
      have d1 : decide (((thereTo s.L (K + M)).length : Int) < (K : Int)) = false := by simp; omega
      have d2 : ¬ ((thereTo s.L (K + M)).length : Int) < (K : Int) := by omega
      have d3 : (K : Int) ≤ (cv : Int) := by omega
      clear hx1 hx2
      go_wp2
      go_ret2
      exact ⟨kk2, Or.inr (Or.inr ⟨hal, HK2.out, _, rfl, hN.out⟩)⟩
  · have hal' : alikeTo s.L (K + M) (K + M) = false := by simpa using hal
    rw [hal']
    clear hx1 hx2 hal
    go_wp2
    go_ret2
    exact ⟨kk2, Or.inl ⟨hal', rfl⟩⟩
/-- the headers of the known shards, when r are laid -/
def heads4 (A : Nat → Option Addr) (n : Nat) (C : Nat → Nat) (r : Nat) : Nat → Value := fun j => if j < r then .slice (A j) n (C j) else .slice none 0 0
theorem heads4_succ (A : Nat → Option Addr) (n : Nat) (C : Nat → Nat) (r j : Nat) : heads4 A n C (r + 1) j = if j = r then .slice (A r) n (C r) else heads4 A n C r j := by
  unfold heads4
  by_cases e : j = r
  · subst e; simp
  · rw [if_neg e]
    by_cases h : j < r
    · rw [if_pos h, if_pos (by omega)]
    · rw [if_neg h, if_neg (by omega)]

set_option maxRecDepth 100000 in
set_option maxHeartbeats 3200000 in
theorem reckon_any (K M n n2 : Nat) (s : Sh) (w : World) (hs : Rd w s) (hG : s.G = K + M) (pf : Option Addr) (bf of_ cf : Nat) (l : Nat → Nat) (hpf : ∀ j, j < K → pf = some ⟨bf, of_, none⟩) (hfc : ∀ j, j < K → w.cell? ⟨bf, of_ + j, none⟩ = some (.int .i64 ((l j : Nat) : Int)))
    (hl : ∀ j, j < K → l j < K + M ∧ s.L (l j) = n ∧ ∀ j', j < j' → j' < K → l j < l j') (v2 : Value) (to : Nat → Nat) (ht : Ls w v2 n2 to) (hto : ∀ j, j < n2 → to j < K + M) (h1 : 1 ≤ (K : Int)) (h3 : (M : Int) ≤ 255 - (K : Int)) (g1 : 1 ≤ n2) (g2 : n2 ≤ 255) (hp : Pows w) (hn : (n : Int) ≤ 1000000) (hn1 : 1 ≤ (n : Int)) :
    Calls Tryd.prog 114 #[.agg #[.int .i64 K, .int .i64 M], .slice s.g (K + M) s.cap, .slice pf K cf, v2] w fun e w' =>
      ∃ t B W, e = .returned (.slice (some ⟨t, 0, none⟩) n2 n2) ∧ Kp (fun _ => False) w w' ∧ w.heap.size ≤ t ∧ (∀ i, i < n2 → w.heap.size ≤ B i) ∧ El (fun r => gen K (l r)) K K W ∧
        Mat w' t B n2 n (fun i p => prodTo (fun i k => prodTo (fun r => gen K (to r)) (right W K) K i k) (fun j q => s.M (l j) q) K i p) := by
  obtain ⟨wa, hwa, ka, za, q1, q2⟩ := code_alloc w K M
  have HG : Hid (Calls _ _ _ wa _) := generator_yes K M wa h1 h3 (ka.pows hp id)
  have HFC : Hid (∀ j, j < K → w.cell? ⟨bf, of_ + j, none⟩ = some (.int .i64 ((l j : Nat) : Int))) := hfc
  have HLL : Hid (∀ j, j < K → l j < K + M ∧ s.L (l j) = n ∧ ∀ j', j < j' → j' < K → l j < l j') := hl
  have HTO : Hid (∀ j, j < n2 → to j < K + M) := hto
  obtain rfl := hpf 0 (by omega)
  have Hsg : Hid (s.g = some ⟨s.gb, s.go, none⟩) := hs.at0 (by omega)
  have HGG : Hid (s.G = K + M) := hG
  have hmk := run_make_row' (P := Tryd.prog) 27 22 (.slice none 0 0) 24 Tryd.underlying27 info42 rfl .i64 .i64 K (by omega) (by omega)
  rw [Hsg.out]
  clear hpf hfc hl hto hG
  obtain ⟨p2, bt, ot, ct, rfl, ht1, ht2⟩ := ht
  have HT : Hid (∀ j, j < n2 → w.cell? ⟨bt, ot + j, none⟩ = some (.int .i64 ((to j : Nat) : Int))) := ht2
  obtain rfl := ht1 0 (by omega)
  clear ht1 ht2
  go_enter Tryd.func114, Tryd.ntmps114
  go_wp2_with fail
  rw [← hwa]
  refine HG.out.mono ?_
  rintro e w1 ⟨tg, Bg, rfl, k1, hMg⟩
  have kk1 := ka.trans k1 (fun _ _ e => e)
  have G1 := hMg.mx
  clear HG hwa q1 q2
  have HR : Hid (Calls _ _ _ w1 _) := rowsX _ (.slice (some ⟨bf, of_, none⟩) K cf) (K + M) K K (gen K) l w1 G1 ⟨_, bf, of_, cf, rfl, fun _ _ => rfl, fun j hj => kk1.cellv (HFC.out j hj) id⟩ (fun j hj => (HLL.out j hj).1) (by omega) (by omega) (by omega) (by omega) (by omega) (by omega)
  go_wp2_with fail
  refine HR.out.mono ?_
  rintro e w2 ⟨vh, rfl, k2, Hv⟩
  have kk2 := kk1.trans k2 (fun _ _ e => e)
  clear HR
  have HR2 : Hid (Calls _ _ _ w2 _) := rowsX _ (.slice (some ⟨bt, ot, none⟩) n2 ct) (K + M) K n2 (gen K) to w2 (G1.keep k2) ⟨_, bt, ot, ct, rfl, fun _ _ => rfl, fun j hj => kk2.cellv (HT.out j hj) id⟩ HTO.out (by omega) (by omega) (by omega) (by omega) (by omega) (by omega)
  go_wp2_with fail
  refine HR2.out.mono ?_
  rintro e w3 ⟨vw, rfl, k3, Wv⟩
  have kk3 := kk2.trans k3 (fun _ _ e => e)
  clear HR2
  have HN : Hid (∀ {j : Nat} {W : Nat → Nat → Nat}, El (fun r => gen K (l r)) K j W → j < K → ¬ NoPiv W K j) := fun h hj => any_no_fail (by omega) (fun j hj => ⟨by have := (HLL.out j hj).1; omega, (HLL.out j hj).2.2⟩) h hj
  have HI : Hid (Calls _ _ _ w3 _) := invertX _ K _ w3 (Hv.keep k3) (by omega) (by omega) (kk3.pows hp id)
  go_wp2_with fail
  refine HI.out.mono ?_
  rintro e w4 ⟨k4, ⟨rfl, j, W, hj, hE, hno⟩ | ⟨ti, W, rfl, hE, Iv⟩⟩
  · exact absurd hno (HN.out hE hj)
  clear HI HN
  have kk4 := kk3.trans k4 (fun _ _ e => e)
  have HM : Hid (Calls _ _ _ w4 _) := mulX _ _ n2 K K _ _ w4 (Wv.keep k4) Iv (by omega) (by omega) (by omega) (by omega) (by omega) (by omega) (kk4.pows hp id)
  go_wp2_with fail
  refine HM.out.mono ?_
  rintro e w5 ⟨vm, rfl, k5, Mv⟩
  have kk5 := kk4.trans k5 (fun _ _ e => e)
  clear HM
  have hz5 := kk5.size
  obtain ⟨w6, hw6⟩ : ∃ x, x = w5.alloc (.cells (madeCells #[.slice none 0 0] K) 22) := ⟨_, rfl⟩
  have k6 : Kp (fun _ => False) w5 w6 := by rw [hw6]; exact (Kp.refl _ _).alloc _
  have r6 : w6.rowIs w5.heap.size 22 K (heads4 (fun j => s.A (l j)) n (fun j => s.C (l j)) 0) := by
    rw [hw6]; exact (World.rowIs_made w5 _ K 22).congr (fun j _ => by simp [heads4])
  go_wp2
  rw [← hw6]
  clear hmk hw6
  go_loopg [55] K (fun gk i wr => ∃ r : Nat, r ≤ K ∧ gk = K - r ∧ i = .int .i64 r ∧ Kp (fun b => b = w5.heap.size) w6 wr ∧ wr.rowIs w5.heap.size 22 K (heads4 (fun j => s.A (l j)) n (fun j => s.C (l j)) r))
  case atStart => exact ⟨0, Nat.zero_le _, rfl, rfl, Kp.refl _ _, r6⟩
  case round =>
    obtain ⟨r, hr, rfl, rfl, hK, hT⟩ := hrel
    have kw : Kp (fun _ => False) w wr := (kk5.trans k6 (fun _ _ e => e)).trans hK (fun b hb e => by omega)
    by_cases hlt : (r : Int) < (K : Int)
    · have hlr := HLL.out r (by omega)
      have f1 := kw.cellv (HFC.out r (by omega)) id
      have f2 := kw.cellv (hs.hd (l r) (by rw [HGG.out]; exact hlr.1)) id
      rw [hlr.2.1] at f2
      have d1 : ((l r : Nat) : Int) < (K : Int) + (M : Int) := by have := hlr.1; omega
      have t1 := hT.cell (i := r) (by omega)
      have t2 := hT.frozen r
      have hT2 := (hT.set r (.slice (s.A (l r)) n (s.C (l r)))).congr (g := heads4 (fun j => s.A (l j)) n (fun j => s.C (l j)) (r + 1)) (fun j _ => by rw [heads4_succ])
      have HT2 : Hid _ := hT2
      clear hlr hT2
      go_wp2
      go_roundg (K - (r + 1))
      case rel => exact ⟨r + 1, by omega, rfl, by go_num, hK.setCell (a := ⟨w5.heap.size, r, none⟩) (fun _ => rfl) _, HT2.out⟩
      case measure => omega
    · have e : r = K := by omega
      have hk56 : Kp (fun _ => False) w5 wr := k6.trans hK (fun b hb e => by omega)
      obtain ⟨q, rfl, hq, hqG, hqL, hqM⟩ := Mv.keep hk56
      have hsk : Rd wr ⟨some ⟨w5.heap.size, 0, none⟩, K, K, w5.heap.size, 0, fun j => s.A (l j), fun _ => n, fun j => s.C (l j), fun j => s.RB (l j), fun j => s.RO (l j), fun j => s.M (l j)⟩ := by
        refine ⟨fun _ => rfl, fun j hj => ?_, fun j hj c hc => ?_, fun j hj c hc => ?_, fun j c => hs.byte _ _⟩
        · have := hT.cell (i := j) hj
          rw [show heads4 (fun j => s.A (l j)) n (fun j => s.C (l j)) r j = .slice (s.A (l j)) n (s.C (l j)) from by simp only at hj; simp [heads4, show j < r from by omega]] at this
          simpa using this
        · have h := HLL.out j hj
          exact hs.to (l j) (by rw [HGG.out]; exact h.1) c (by rw [h.2.1]; exact hc)
        · have h := HLL.out j hj
          exact kw.cellv (hs.cell (l j) (by rw [HGG.out]; exact h.1) c (by rw [h.2.1]; exact hc)) id
      have HX : Hid (Calls _ _ _ wr _) := mixAll_any q ⟨some ⟨w5.heap.size, 0, none⟩, K, K, w5.heap.size, 0, fun j => s.A (l j), fun _ => n, fun j => s.C (l j), fun j => s.RB (l j), fun j => s.RO (l j), fun j => s.M (l j)⟩ n wr hq hsk (fun r hr => hqL r (by omega)) (fun _ _ => rfl) (by omega) (by omega) (by show ((K : Nat) : Int) ≤ 1000; omega) h1 (kw.pows hp id) hn hn1
      have HE : Hid (El (fun r => gen K (l r)) K K W) := hE
      rw [hqG, hqM] at HX
      have hzw := kw.size
      have HQ : Hid (q.G = n2) := hqG
      clear hT hsk hq hqL hqM hE hs Mv Iv Wv Hv G1 hMg r6
      rw [show q.G = n2 from hqG]
      clear hqG
      go_wp2_with fail
      refine HX.out.mono ?_
      rintro e w7 ⟨B7, rfl, hP⟩
      go_wp2
      go_ret
      exact ⟨_, B7, W, rfl, kw.trans hP.kept (fun _ _ e => e), hzw, fun i hi => by have := hP.lo i hi; omega, HE.out, hP.mat (fun i j => prodTo_lt _ _ _ _ _)⟩
/-- all shards that the places xs fix, when W is what elimination finds -/
def decM (K : Nat) (M : Nat → Nat → Nat) (xs : List Nat) (W : Nat → Nat → Nat) (to : Nat → Nat) : Nat → Nat → Nat := fun i p => prodTo (fun i k => prodTo (fun r => gen K (to r)) (right W K) K i k) (fun j q => M (xs.getD j 0) q) K i p
theorem decM_lt (K : Nat) (M : Nat → Nat → Nat) (xs : List Nat) (W : Nat → Nat → Nat) (to : Nat → Nat) (i p : Nat) : decM K M xs W to i p < 256 := prodTo_lt _ _ _ _ _
/-- what is told of shards of a code word -/
theorem decM_enc {K : Nat} {D : Nat → Nat → Nat} (hD : ∀ i j, D i j < 256) {xs : List Nat} {W : Nat → Nat → Nat} (hE : El (fun r => gen K (xs.getD r 0)) K K W) {M : Nat → Nat → Nat} {p : Nat} (hM : ∀ j, j < K → M (xs.getD j 0) p = enc K D (xs.getD j 0) p) (to : Nat → Nat) (i : Nat) : decM K M xs W to i p = enc K D (to i) p := by
  rw [← dec_all hD (l := fun r => xs.getD r 0) (to := to) hE i p]
  unfold decM
  exact prodTo_congr (fun _ _ => rfl) (fun j hj => hM j hj)
/-- numbers that rise from nought, laid so far -/
def upInts (r : Nat) : Nat → Value := fun j => if j < r then .int .i64 (j : Int) else .int .i64 0
theorem upInts_succ (r j : Nat) : upInts (r + 1) j = if j = r then .int .i64 (r : Int) else upInts r j := by
  unfold upInts
  by_cases e : j = r
  · subst e; simp
  · rw [if_neg e]
    by_cases h : j < r
    · rw [if_pos h, if_pos (by omega)]
    · rw [if_neg h, if_neg (by omega)]
theorem firstK_all {L : Nat → Nat} {n K : Nat} (hal : alikeTo L n n = true) (hK : K ≤ (thereTo L n).length) (j : Nat) (hj : j < K) : (firstK L n K).getD j 0 < n ∧ L ((firstK L n K).getD j 0) = len0 L n ∧ ∀ j', j < j' → j' < K → (firstK L n K).getD j 0 < (firstK L n K).getD j' 0 := by
  have hm := firstK_mem (getD_mem (xs := firstK L n K) (j := j) (by rw [firstK_len hK]; exact hj))
  exact ⟨hm.1, alike_len hal hm.1 hm.2, fun j' h1 h2 => firstK_inc j j' h1 (by rw [firstK_len hK]; exact h2)⟩

set_option maxRecDepth 100000 in
set_option maxHeartbeats 3200000 in
theorem decode_any (K M : Nat) (s : Sh) (w : World) (hs : Rd w s) (hG : s.G = K + M) (h1 : 1 ≤ (K : Int)) (h3 : (M : Int) ≤ 255 - (K : Int)) (hp : Pows w) (hn : (len0 s.L (K + M) : Int) ≤ 1000000) :
    Calls Tryd.prog 129 #[.agg #[.int .i64 K, .int .i64 M], .slice s.g (K + M) s.cap] w fun e w' => Kp (fun _ => False) w w' ∧
      ((alikeTo s.L (K + M) (K + M) = false ∧ e = .returned (.tuple #[.slice none 0 0, .int .i64 1])) ∨
       (alikeTo s.L (K + M) (K + M) = true ∧ (thereTo s.L (K + M)).length < K ∧ e = .returned (.tuple #[.slice none 0 0, .int .i64 30])) ∨
       (alikeTo s.L (K + M) (K + M) = true ∧ K ≤ (thereTo s.L (K + M)).length ∧ ∃ t B W, e = .returned (.tuple #[.slice (some ⟨t, 0, none⟩) (K + M) (K + M), .int .i64 0]) ∧ w.heap.size ≤ t ∧ (∀ i, i < K + M → w.heap.size ≤ B i) ∧
          El (fun r => gen K ((firstK s.L (K + M) K).getD r 0)) K K W ∧ Mat w' t B (K + M) (len0 s.L (K + M)) (decM K s.M (firstK s.L (K + M) K) W (fun r => r)))) := by
  obtain ⟨wa, hwa, ka, za, q1, q2⟩ := code_alloc w K M
  have HC : Hid (Calls _ _ _ wa _) := firstThere_any K M s wa (hs.keep ka) hG h1 h3
  have hmk := run_make_row' (P := Tryd.prog) 23 3 (.int .i64 0) 8 Tryd.underlying23 infoInt rfl .i64 .i64 (K + M) (by omega) (by omega)
  rw [show ((K + M : Nat) : Int) = (K : Int) + (M : Int) from by simp] at hmk
  go_enter Tryd.func129, Tryd.ntmps129
  go_wp2_with fail
  rw [← hwa]
  refine HC.out.mono ?_
  rintro e w1 ⟨k1, ⟨hal, rfl⟩ | ⟨hal, hfew, rfl⟩ | ⟨hal, hK, v, rfl, hN⟩⟩
  · have HA : Hid (alikeTo s.L (K + M) (K + M) = false) := hal
    have kk := ka.trans k1 (fun _ _ e => e)
    clear hal hwa HC hs
    go_wp2
    go_ret2
    exact ⟨kk, Or.inl ⟨HA.out, rfl⟩⟩
  · have HA : Hid (alikeTo s.L (K + M) (K + M) = true ∧ (thereTo s.L (K + M)).length < K) := ⟨hal, hfew⟩
    have kk := ka.trans k1 (fun _ _ e => e)
    clear hal hfew hwa HC hs
    go_wp2
    go_ret2
    exact ⟨kk, Or.inr (Or.inl ⟨HA.out.1, HA.out.2, rfl⟩)⟩
  · obtain ⟨pf, bf, cf, rfl, hx1, hx2⟩ := hN
    rw [firstK_len hK] at hx2 ⊢
    obtain ⟨rfl, hbf, hcf⟩ := hx1 (fun e => by have := firstK_len hK; rw [e] at this; simp at this; omega)
    have hn1 : 1 ≤ len0 s.L (K + M) := by
      have := (firstK_all hal hK 0 (by omega)).2.1
      have hm := firstK_mem (getD_mem (xs := firstK s.L (K + M) K) (j := 0) (by rw [firstK_len hK]; omega))
      omega
    have HLL : Hid (∀ j, j < K → _) := firstK_all hal hK
    have HA : Hid (alikeTo s.L (K + M) (K + M) = true ∧ K ≤ (thereTo s.L (K + M)).length) := ⟨hal, hK⟩
    have HX2 : Hid (∀ k, k < K → w1.cell? ⟨bf, 0 + k, none⟩ = some (.int .i64 (((firstK s.L (K + M) K).getD k 0 : Nat) : Int))) := hx2
    obtain ⟨xs, hxs⟩ : ∃ x, x = firstK s.L (K + M) K := ⟨_, rfl⟩
    obtain ⟨n, hne⟩ : ∃ x, x = len0 s.L (K + M) := ⟨_, rfl⟩
    have HXS : Hid (firstK s.L (K + M) K = xs) := hxs.symm
    have HNE : Hid (len0 s.L (K + M) = n) := hne.symm
    rw [← hxs] at HX2 HLL
    rw [← hne] at HLL hn hn1
    have r1 := k1.cellv q1 id
    have r2 := k1.cellv q2 id
    have kk := ka.trans k1 (fun _ _ e => e)
    clear hx1 hx2 hal hK HC hwa hxs hne q1 q2
    obtain ⟨w2, hw2⟩ : ∃ x, x = w1.alloc (.cells (madeCells #[.int .i64 0] (K + M)) 3) := ⟨_, rfl⟩
    have k2 : Kp (fun _ => False) w1 w2 := by rw [hw2]; exact (Kp.refl _ _).alloc _
    have t2 : w2.rowIs w1.heap.size 3 (K + M) (upInts 0) := by rw [hw2]; exact (World.rowIs_made w1 _ (K + M) 3).congr (fun j _ => by simp [upInts])
    go_wp2
    rw [← hw2]
    clear hmk hw2
    go_loopg [27] (K + M) (fun gk i wr => ∃ r : Nat, r ≤ K + M ∧ gk = K + M - r ∧ i = .int .i64 r ∧ Kp (fun b => b = w1.heap.size) w2 wr ∧ wr.rowIs w1.heap.size 3 (K + M) (upInts r))
    case atStart => exact ⟨0, Nat.zero_le _, rfl, rfl, Kp.refl _ _, t2⟩
    case round =>
      obtain ⟨r, hr, rfl, rfl, hKr, hT⟩ := hrel
      by_cases hlt : (r : Int) < (K : Int) + (M : Int)
      · have e1 := hT.cell (i := r) (by omega)
        have e2 := hT.frozen r
        have HT2 : Hid _ := (hT.set r (.int .i64 (r : Int))).congr (g := upInts (r + 1)) (fun j _ => by rw [upInts_succ])
        go_wp2
        go_roundg (K + M - (r + 1))
        case rel => exact ⟨r + 1, by omega, rfl, by go_num, hKr.setCell (a := ⟨w1.heap.size, r, none⟩) (fun _ => rfl) _, HT2.out⟩
        case measure => omega
      · have e : r = K + M := by omega
        have k12 : Kp (fun _ => False) w1 wr := k2.trans hKr (fun b hb e => by omega)
        have kw := kk.trans k12 (fun _ _ e => e)
        have c1 := k12.cellv r1 id
        have c2 := k12.cellv r2 id
        have HK2 : Hid (Calls _ _ _ wr _) := reckon_any K M n (K + M) s wr (hs.keep kw) hG (some ⟨bf, 0, none⟩) bf 0 cf (fun j => xs.getD j 0) (fun _ _ => rfl) (fun j hj => k12.cellv (HX2.out j hj) id) HLL.out
          (.slice (some ⟨w1.heap.size, 0, none⟩) (K + M) (K + M)) (fun r => r) ⟨_, w1.heap.size, 0, K + M, rfl, fun _ _ => rfl, fun j hj => by
            have := hT.cell (i := j) hj
            rw [show upInts r j = .int .i64 (j : Int) from by simp [upInts, show j < r from by omega]] at this
            simpa using this⟩ (fun j hj => hj) h1 h3 (by omega) (by omega) (kw.pows hp id) hn (by omega)
        clear hT t2 hs hG
        go_wp2_with fail
        refine HK2.out.mono ?_
        rintro e w3 ⟨t, B, W, rfl, k3, h4, h5, hE, hMt⟩
        have HE : Hid (El _ _ _ W) := hE
        have hz := kw.size
        clear HK2 hE
        go_wp2
        go_ret2
        rw [HXS.out, HNE.out]
        exact ⟨kw.trans k3 (fun _ _ e => e), Or.inr (Or.inr ⟨HA.out.1, HA.out.2, t, B, W, rfl, by omega, fun i hi => by have := h5 i hi; omega, HE.out, hMt⟩)⟩
set_option maxRecDepth 100000 in
set_option maxHeartbeats 3200000 in
theorem repair_any (K M i : Nat) (s : Sh) (w : World) (hs : Rd w s) (hG : s.G = K + M) (h1 : 1 ≤ (K : Int)) (h3 : (M : Int) ≤ 255 - (K : Int)) (hi : (i : Int) < (K : Int) + (M : Int)) (hp : Pows w) (hn : (len0 s.L (K + M) : Int) ≤ 1000000) :
    Calls Tryd.prog 93 #[.agg #[.int .i64 K, .int .i64 M], .slice s.g (K + M) s.cap, .int .i64 i] w fun e w' => Kp (fun _ => False) w w' ∧
      ((alikeTo s.L (K + M) (K + M) = false ∧ e = .returned (.tuple #[.slice none 0 0, .int .i64 1])) ∨
       (alikeTo s.L (K + M) (K + M) = true ∧ (thereTo s.L (K + M)).length < K ∧ e = .returned (.tuple #[.slice none 0 0, .int .i64 30])) ∨
       (alikeTo s.L (K + M) (K + M) = true ∧ K ≤ (thereTo s.L (K + M)).length ∧ ∃ b W, e = .returned (.tuple #[.slice (some ⟨b, 0, none⟩) (len0 s.L (K + M)) (len0 s.L (K + M)), .int .i64 0]) ∧
          El (fun r => gen K ((firstK s.L (K + M) K).getD r 0)) K K W ∧ w'.rowIs b 5 (len0 s.L (K + M)) (By (decM K s.M (firstK s.L (K + M) K) W (fun _ => i) 0)))) := by
  obtain ⟨wa, hwa, ka, za, q1, q2⟩ := code_alloc w K M
  have HC0 : Hid (Calls _ _ _ wa _) := can_yes K M wa h1 (by omega) h3
  have d1 : decide (((K : Int) + (M : Int)) ≤ (i : Int)) = false := by simp; omega
  go_enter Tryd.func93, Tryd.ntmps93
  go_wp2_with fail
  rw [← hwa]
  refine HC0.out.mono ?_
  rintro e w0 ⟨rfl, k0⟩
  have ka0 := ka.trans k0 (fun _ _ e => e)
  have p1 := k0.cellv q1 id
  have p2 := k0.cellv q2 id
  clear HC0 q1 q2 hwa
  have HC : Hid (Calls _ _ _ w0 _) := firstThere_any K M s w0 (hs.keep ka0) hG h1 h3
  go_wp2_with fail
  refine HC.out.mono ?_
  rintro e w1 ⟨k1, ⟨hal, rfl⟩ | ⟨hal, hfew, rfl⟩ | ⟨hal, hK, v, rfl, hN⟩⟩
  · have HA : Hid (alikeTo s.L (K + M) (K + M) = false) := hal
    have kk := ka0.trans k1 (fun _ _ e => e)
    clear hal HC hs
    go_wp2
    go_ret2
    exact ⟨kk, Or.inl ⟨HA.out, rfl⟩⟩
  · have HA : Hid (alikeTo s.L (K + M) (K + M) = true ∧ (thereTo s.L (K + M)).length < K) := ⟨hal, hfew⟩
    have kk := ka0.trans k1 (fun _ _ e => e)
    clear hal hfew HC hs
    go_wp2
    go_ret2
    exact ⟨kk, Or.inr (Or.inl ⟨HA.out.1, HA.out.2, rfl⟩)⟩
  · obtain ⟨pf, bf, cf, rfl, hx1, hx2⟩ := hN
    rw [firstK_len hK] at hx2 ⊢
    obtain ⟨rfl, hbf, hcf⟩ := hx1 (fun e => by have := firstK_len hK; rw [e] at this; simp at this; omega)
    have hn1 : 1 ≤ len0 s.L (K + M) := by
      have := (firstK_all hal hK 0 (by omega)).2.1
      have hm := firstK_mem (getD_mem (xs := firstK s.L (K + M) K) (j := 0) (by rw [firstK_len hK]; omega))
      omega
    have HLL : Hid (∀ j, j < K → _) := firstK_all hal hK
    have HA : Hid (alikeTo s.L (K + M) (K + M) = true ∧ K ≤ (thereTo s.L (K + M)).length) := ⟨hal, hK⟩
    have HX2 : Hid (∀ k, k < K → w1.cell? ⟨bf, 0 + k, none⟩ = some (.int .i64 (((firstK s.L (K + M) K).getD k 0 : Nat) : Int))) := hx2
    obtain ⟨xs, hxs⟩ : ∃ x, x = firstK s.L (K + M) K := ⟨_, rfl⟩
    obtain ⟨n, hne⟩ : ∃ x, x = len0 s.L (K + M) := ⟨_, rfl⟩
    have HXS : Hid (firstK s.L (K + M) K = xs) := hxs.symm
    have HNE : Hid (len0 s.L (K + M) = n) := hne.symm
    rw [← hxs] at HX2 HLL
    rw [← hne] at HLL hn hn1
    have r1 := k1.cellv p1 id
    have r2 := k1.cellv p2 id
    have kk := ka0.trans k1 (fun _ _ e => e)
    clear hx1 hx2 hal hK HC hxs hne p1 p2
    obtain ⟨w2, hw2⟩ : ∃ x, x = w1.alloc (.cells #[.int .i64 ((i : Nat) : Int)] 3) := ⟨_, rfl⟩
    have k2 : Kp (fun _ => False) w1 w2 := by rw [hw2]; exact (Kp.refl _ _).alloc _
    have c0 : w2.cell? ⟨w1.heap.size, 0, none⟩ = some (.int .i64 ((i : Nat) : Int)) := by rw [hw2]; go_simp
    have kw := kk.trans k2 (fun _ _ e => e)
    have HK2 : Hid (Calls _ _ _ w2 _) := reckon_any K M n 1 s w2 (hs.keep kw) hG (some ⟨bf, 0, none⟩) bf 0 cf (fun j => xs.getD j 0) (fun _ _ => rfl) (fun j hj => k2.cellv (HX2.out j hj) id) HLL.out
      (.slice (some ⟨w1.heap.size, 0, none⟩) 1 1) (fun _ => i) ⟨_, w1.heap.size, 0, 1, rfl, fun _ _ => rfl, fun j hj => by
        have : j = 0 := by omega
        subst this; exact c0⟩ (fun j hj => by omega) h1 h3 (by omega) (by omega) (kw.pows hp id) hn (by omega)
    clear hs hG c0
    go_wp2_with fail
    rw [← hw2]
    refine HK2.out.mono ?_
    rintro e w3 ⟨t, B, W, rfl, k3, h4, h5, hE, hMt⟩
    have HE : Hid (El _ _ _ W) := hE
    have a0 := hMt.top.cell (i := 0) (by omega)
    have HR : Hid _ := hMt.row 0 (by omega)
    clear HK2 hE hw2 hMt
    go_wp2
    go_ret2
    rw [HXS.out, HNE.out]
    exact ⟨kw.trans k3 (fun _ _ e => e), Or.inr (Or.inr ⟨HA.out.1, HA.out.2, B 0, W, rfl, HE.out, HR.out⟩)⟩
end Go.Proofs.YtmncocmeafcpfaaDoor.Mf
