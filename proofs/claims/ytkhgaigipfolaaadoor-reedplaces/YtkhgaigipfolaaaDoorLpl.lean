/- The walk of the law ReedPlaces: of data that are cut shorter the shards are cut shorter. -/
import Derived.Test.YtkhgaigipfolaaaDoorMa
namespace Go.Proofs.YtkhgaigipfolaaaDoor
open Go.RowKit Go.Deep

theorem ownsRow_keep2 {S : Nat → Prop} {w w' : World} {base : Nat} {e : TypeId} {size : Nat} {v : Value} {n : Nat} {xs : List Value} (h : w.ownsRow base e size v n xs) (k : Kp S w w') (hS : ∀ g, base ≤ g → ¬ S g) : w'.ownsRow base e size v n xs := by
  obtain ⟨h1, h2⟩ := h
  refine ⟨h1, ?_⟩
  rcases h2 with h2 | ⟨g, cap, cur, hv, hg, hh, r⟩
  · exact Or.inl h2
  · exact Or.inr ⟨g, cap, cur, hv, hg, (k.block g (Array.getElem?_eq_some_iff.1 hh).1 (hS g hg)).trans hh, r⟩
/-- the headers of rows that are cut to a bytes -/
def hdrs2 (B : Nat → Nat) (a n r : Nat) : List Value := (List.range r).map fun j => .slice (some ⟨B j, 0, none⟩) a n
theorem hdrs2_succ (B : Nat → Nat) (a n r : Nat) : hdrs2 B a n (r + 1) = hdrs2 B a n r ++ [.slice (some ⟨B r, 0, none⟩) a n] := by
  unfold hdrs2
  rw [List.range_succ, List.map_append]; rfl
theorem hdrs2_at (B : Nat → Nat) (a n : Nat) {r j : Nat} (h : j < r) : (hdrs2 B a n r)[j]? = some (.slice (some ⟨B j, 0, none⟩) a n) := by
  unfold hdrs2
  rw [List.getElem?_map, List.getElem?_range h]; rfl
/-- what is gathered, read -/
theorem gathered {w : World} {base : Nat} {v : Value} {B : Nat → Nat} {a n r : Nat} (h : w.ownsRow base 22 1 v r (hdrs2 B a n r)) (hr : 0 < r) : ∃ t cap, v = .slice (some ⟨t, 0, none⟩) r cap ∧ ∀ i, i < r → w.cell? ⟨t, 0 + i, none⟩ = some (.slice (some ⟨B i, 0, none⟩) a n) := by
  rcases h.2 with ⟨_, h0⟩ | ⟨g, cap, cur, rfl, hb, hh, hn, _, hcs, htk⟩
  · omega
  · refine ⟨g, cap, rfl, fun i hi => ?_⟩
    have h1 : (cur.toList.take (r * 1))[i]? = some (.slice (some ⟨B i, 0, none⟩) a n) := by rw [htk]; exact hdrs2_at B a n hi
    rw [List.getElem?_take_of_lt (by omega), Array.getElem?_toList] at h1
    simp [World.cell?, hh, h1]
theorem top_value {w : World} {base m : Nat} {v : Value} {xs : List Value} (h : w.ownsRow base 22 1 v m xs) : ∃ ao cv, v = .slice ao m cv := by
  rcases h.2 with ⟨rfl, h0⟩ | ⟨g, cap, cur, rfl, _⟩
  · exact ⟨none, 0, by rw [h0]⟩
  · exact ⟨_, _, rfl⟩
def atOf (at_ : Int) (N : Nat) : Nat := 1 + ((at_ % 18446744073709551616) % N).toNat
theorem atOf_bd (a : Int) {N : Nat} (h : 1 ≤ N) : 1 ≤ atOf a N ∧ atOf a N ≤ N := by
  unfold atOf
  have h1 := Int.emod_nonneg (a % 18446744073709551616) (show (N : Int) ≠ 0 by omega)
  have h2 := Int.emod_lt_of_pos (a % 18446744073709551616) (show (0 : Int) < N by omega)
  omega
theorem atOf_eq (a : Int) {N : Nat} (h : 1 ≤ N) (_h2 : N ≤ 1000) : wrap64 (1 + wrap64 ((IntKind.u64.wrap a).tmod (N : Int))) = (atOf a N : Int) := by
  rw [u64_wrap, Int.tmod_eq_emod_of_nonneg (by omega)]
  have h1 := Int.emod_nonneg (a % 18446744073709551616) (show (N : Int) ≠ 0 by omega)
  have h2 := Int.emod_lt_of_pos (a % 18446744073709551616) (show (0 : Int) < N by omega)
  unfold wrap64 atOf; omega

set_option maxRecDepth 100000 in
set_option maxHeartbeats 3200000 in
theorem places_walk (k m n : Int) (a : Value) (la : Nat) (f : Nat → Nat) (x : Int) (w : World) (ha : Bs w a la f) (hp : Pows w) :
    Calls Tryd.prog 3 #[.int .i64 k, .int .i64 m, .int .i64 n, a, .int .i64 x] w fun e w' => e = .returned (.bool true) ∧ Kp (fun _ => False) w w' := by
  obtain ⟨K, M, N, ⟨b1, b2, b3, n1, n2⟩, hmade⟩ := madeX k m n
  obtain ⟨D, hD', hcall⟩ := hmade a la f w ha hp
  have HD : Hid (Calls _ _ _ w _) := hcall
  have hD : Hid (∀ i j, D i j < 256) := hD'
  clear hmade hcall hD'
  obtain ⟨pa, ba, oa, ca, rfl, hpa, hc, hf⟩ := ha
  clear hpa hc hf
  have HX : Hid (_ = _) := atOf_eq x n1 (by omega)
  obtain ⟨a1, a2⟩ := atOf_bd x n1
  go_enter Tryd.func3, Tryd.ntmps3
  go_wp2_with fail
  refine HD.out.mono ?_
  rintro e w1 ⟨t, B, rfl, k1, ht, hB, hM⟩
  clear HD
  obtain ⟨wa, hwa, ka, za, q1, q2⟩ := code_alloc w1 K M
  have htl := hM.top.lt
  have hMa := hM.keep ka id (fun _ _ => id)
  have h0 := (hM.top.alloc (.cells #[.int .i64 (K : Int), .int .i64 (M : Int)] 24)).cell (i := 0) (by omega)
  have hn0' : (IntKind.u64.wrap (N : Int) == 0) = false := by rw [u64_wrap]; exact beq_eq_false_iff_ne.2 (by omega)
  have hnn := not_nil ⟨t, 0, none⟩ (K + M) (K + M)
  go_wp2
  rw [HX.out, ← hwa]
  clear HX h0 hn0' hnn hwa
  generalize atOf x N = A at *
  obtain ⟨ti, hi0, hz0, hz1, hz2⟩ := info_parts info42
  have hBt : ∀ i, i < K + M → B i < wa.heap.size := fun i hi => (hMa.row i hi).lt
  go_loopg [13, 39] (K + M) (fun gk v i wr => ∃ (r d : Nat), r ≤ K + M ∧ d ≤ K ∧ (r < K → d = r) ∧ (K ≤ r → d = K) ∧ gk = K + M - r ∧ i = .int .i64 r ∧ (∃ ao cv, v = .slice ao d cv) ∧ Kp (fun b => b = t) wa wr ∧ wr.rowIs t 22 (K + M) (fun i => .slice (some ⟨B i, 0, none⟩) (if i < r then A else N) N) ∧ wr.ownsRow wa.heap.size 22 1 v d (hdrs2 B A N d))
  case atStart => exact ⟨0, 0, Nat.zero_le _, Nat.zero_le _, fun _ => rfl, fun h => by omega, rfl, rfl, ⟨none, 0, rfl⟩, Kp.refl _ _, hMa.top.congr (fun i _ => by simp), World.ownsRow_nil _ _ _ _⟩
  case round =>
    obtain ⟨r, d, hr, hd, hd1, hd2, rfl, rfl, ⟨ao, cv, rfl⟩, hK, hT, hO⟩ := hrel
    have s1 := hK.cellv q1 (by show w1.heap.size ≠ t; omega)
    have s2 := hK.cellv q2 (by show w1.heap.size ≠ t; omega)
    have hlt' : (r : Int) < ((K + M : Nat) : Int) ∨ ¬ (r : Int) < ((K + M : Nat) : Int) := by omega
    rcases hlt' with hlt | hlt
    · have hlt2 : (r : Int) < (K : Int) + (M : Int) := by omega
      have e1 := hT.cell (i := r) (by omega)
      have e2 := hT.frozen r
      simp only [if_neg (Nat.lt_irrefl r)] at e1
      have aN : (A : Int) ≤ (N : Int) := by omega
      have hT2 := (hT.set r (.slice (some ⟨B r, 0, none⟩) A N)).congr (g := fun i => .slice (some ⟨B i, 0, none⟩) (if i < r + 1 then A else N) N) (fun i _ => by
        by_cases e : i = r
        · subst e; simp
        · rw [if_neg e]
          by_cases h : i < r
          · rw [if_pos h, if_pos (by omega)]
          · rw [if_neg h, if_neg (by omega)])
      obtain ⟨wq, hwq⟩ : ∃ x, x = wr.setCell ⟨t, r, none⟩ (.slice (some ⟨B r, 0, none⟩) A N) := ⟨_, rfl⟩
      have kq : Kp (fun b => b = t) wr wq := by rw [hwq]; exact (Kp.refl (fun b => b = t) wr).setCell (a := ⟨t, r, none⟩) (fun _ => rfl) _
      rw [← hwq] at hT2
      have s3 := kq.cellv s1 (by show w1.heap.size ≠ t; omega)
      have hOq := ownsRow_keep2 hO kq (fun g hg => by omega)
      have e3 := hT2.cell (i := r) (by omega)
      simp only [if_pos (Nat.lt_succ_self r)] at e3
      have hKq := hK.trans kq (fun _ _ e => e)
      have hzq := hKq.size
      by_cases hrK : (r : Int) < (K : Int)
      · obtain rfl := (hd1 (by omega)).symm
        have HW : Hid (wq = _) := hwq
        have HZ : Hid (wq.heap.size = wr.heap.size) := by rw [hwq]; exact nblk_setCell _ _ _
        clear hT hO
        go_wp2_with (at_builtin; go_must (rw [← HW.out]; refine wpList_append_own_at _ rfl _ _ 25 rfl wa.heap.size 22 ti (.slice none 0 0) 1 24 Tryd.underlying25 hi0 hz0 hz1 hz2 rfl (by decide) _ _ _ rfl (hOq.alloc _) ⟨wr.heap.size, 0, none⟩ 1 1 [.slice (some ⟨B r, 0, none⟩) A N] rfl rfl (by have := cell_one_new wq (.slice (some ⟨B r, 0, none⟩) A N) 22; rw [HZ.out] at this; exact this) (fun x hx => by simp at hx; subst hx; rfl) (by unfold maxLen; omega) (by omega) (by simp; omega) ?_); intro v' w3 hown' hgrow3 hnil3 hblk3)
        have kg : Kp (fun b => b = t) wa w3 := Kp.trans (hKq.alloc _) (grownBy_kp hgrow3) (fun b hb e => by have := ownBlock_lt hOq e; omega)
        go_roundg (K + M - (r + 1))
        case rel => exact ⟨r + 1, r + 1, by omega, by omega, by omega, by omega, rfl, by go_num, top_value hown', kg, (grownBy_kp hgrow3).row (hT2.alloc _) (fun e => by have := ownBlock_lt hOq e; omega), by rw [hdrs2_succ]; exact hown'⟩
        case measure => omega
      · obtain rfl := (hd2 (by omega)).symm
        have HW : Hid (wq = _) := hwq
        clear hT hO
        go_wp2
        rw [← HW.out]
        go_roundg (K + M - (r + 1))
        case rel => exact ⟨r + 1, K, by omega, hd, by omega, by omega, rfl, by go_num, ⟨ao, cv, rfl⟩, hKq, hT2, hOq⟩
        case measure => omega
    · have hrr : r = K + M := by omega
      obtain rfl := (hd2 (by omega)).symm
      obtain ⟨td, cd, hv, hcd⟩ := gathered hO (by omega)
      have hpr : Pows wr := (hK.pows ((k1.trans ka (fun _ _ e => e)).pows hp id) (by have := hp.lt; have := hM.top.lt; omega))
      have kw : Kp (fun _ => False) w wr := (k1.trans ka (fun _ _ e => e)).trans hK (fun b hb e => by omega)
      have hrows : ∀ i, i < K + M → wr.rowIs (B i) 5 N (By (enc K D i)) := fun i hi => hK.row (hMa.row i hi) (hMa.ne i hi)
      obtain ⟨sd, hsd⟩ : ∃ x : Sh, x = ⟨some ⟨td, 0, none⟩, K, cd, td, 0, fun r => some ⟨B r, 0, none⟩, fun _ => A, fun _ => N, B, fun _ => 0, enc K D⟩ := ⟨_, rfl⟩
      have hRd : Rd wr sd := by
        subst hsd
        exact ⟨fun _ => rfl, fun i hi => hcd i hi, fun _ _ _ _ => rfl, fun i hi c hc => by have := (hrows i (by simp at hi; omega)).cell (i := c) (by simp at hc; omega); simpa using this, fun i c => enc_lt _ _ _ _⟩
      obtain ⟨sl, hsl⟩ : ∃ x : Sh, x = ⟨some ⟨t, 0, none⟩, K + M, K + M, t, 0, fun r => some ⟨B r, 0, none⟩, fun _ => A, fun _ => N, B, fun _ => 0, enc K D⟩ := ⟨_, rfl⟩
      have hRl : Mx wr (.slice (some ⟨t, 0, none⟩) (K + M) (K + M)) (K + M) A (enc K D) := by
        refine ⟨sl, by subst hsl; rfl, ?_, by subst hsl; rfl, fun _ _ => by subst hsl; rfl, by subst hsl; rfl⟩
        subst hsl
        exact ⟨fun _ => rfl, fun i hi => by have := hT.cell (i := i) hi; simp only at hi; rw [if_pos (by omega)] at this; simpa using this, fun _ _ _ _ => rfl, fun i hi c hc => by have := (hrows i hi).cell (i := c) (by simp at hc; omega); simpa using this, fun i c => enc_lt _ _ _ _⟩
      have HE : Hid (Calls _ _ _ wr _) := encode_yes K M A sd wr hRd (by subst hsd; rfl) (fun _ _ => by subst hsd; rfl) (by omega) (by omega) hpr (by omega) (by omega)
      have hsM : Hid (sd.M = enc K D) := by subst hsd; rfl
      have HV : Hid (Value.slice sd.g K sd.cap = .slice ao K cv) := by subst hsd; exact hv.symm
      rw [HV.out] at HE
      clear hO hv hT hcd hsd hRd
      go_wp2_with fail
      refine HE.out.mono ?_
      rintro e w2 ⟨t2, B2, rfl, k2, _, _, hM2⟩
      rw [hsM.out] at hM2
      have HS : Hid (Calls _ _ _ w2 _) := sameX _ _ (K + M) A _ _ w2 hM2.mx (hRl.keep k2) (fun i hi j hj => enc_congr (fun q hq => enc_data hD.out hq j) i) (by omega)
      go_wp2_with fail
      refine HS.out.mono ?_
      rintro e w3 ⟨rfl, hw⟩
      obtain rfl := hw.symm
      go_wp2
      go_ret
      exact ⟨rfl, kw.trans k2 (fun _ _ e => e)⟩
end Go.Proofs.YtkhgaigipfolaaaDoor
