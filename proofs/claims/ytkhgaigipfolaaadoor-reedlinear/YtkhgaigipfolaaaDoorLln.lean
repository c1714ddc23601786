/- The walk of the law ReedLinear: the shards of two data's sums are the sums of both's shards. -/
import Derived.Test.YtkhgaigipfolaaaDoorMa
import Derived.Test.YtkhgaigipfolaaaDoorTx
namespace Go.Proofs.YtkhgaigipfolaaaDoor
open Go.RowKit Go.Deep

/-- one byte of texts of one's own is written -/
theorem Own.setByte {w w' : World} {s : Sh} (h : Own w w' s) {i : Nat} (hi : i < s.G) {j : Nat} (hj : j < s.L i) (x : Nat) (hx : x < 256) :
    Own w (w'.setCell ⟨s.RB i, j, none⟩ (.int .u8 ((x : Nat) : Int))) ⟨s.g, s.G, s.cap, s.gb, s.go, s.A, s.L, s.C, s.RB, s.RO, fun i' j' => if i' = i ∧ j' = j then x else s.M i' j'⟩ := by
  have hLi : 0 < s.L i := by omega
  have hrow : ∀ q, q < s.G → 0 < s.L q → RowB (w'.setCell ⟨s.RB i, j, none⟩ (.int .u8 ((x : Nat) : Int))) (s.RB q) (s.C q) (s.L q) (fun j' => if q = i ∧ j' = j then x else s.M q j') := fun q hq hL => by
    by_cases e : q = i
    · subst e
      exact ((h.row q hq hL).2.2.set j x).congr (fun j' _ => by simp)
    · exact ((h.row q hq hL).2.2.setOther (by show s.RB q ≠ s.RB i; exact fun e' => e (h.inj q i hq hi hL hLi e')) _).congr (fun j' _ => by simp [e])
  refine ⟨⟨h.rd.at0, fun r hr => ?_, h.rd.to, fun r hr c hc => ?_, fun r c => ?_⟩, h.lc, h.cap, h.off, h.top, fun q hq hL => ⟨(h.row q hq hL).1, (h.row q hq hL).2.1, hrow q hq hL⟩, h.inj, h.ne⟩
  · rw [World.cell?_setCell_other _ _ _ _ (fun e => h.ne i hi hLi (by have := congrArg Addr.block e; simpa using this))]
    exact h.rd.hd r hr
  · have hL : 0 < s.L r := by simp only at hc; omega
    have := (hrow r hr hL).cell hc
    rw [(h.row r hr hL).1, Nat.zero_add]
    exact this
  · dsimp only
    split
    · exact hx
    · exact h.rd.byte _ _
theorem Own.drew {w w' : World} {s : Sh} (h : Own w w' s) : Own w w'.drew s := ⟨⟨h.rd.at0, h.rd.hd, h.rd.to, h.rd.cell, h.rd.byte⟩, h.lc, h.cap, h.off, h.top, h.row, h.inj, h.ne⟩
theorem Own.congr {w w' : World} {s : Sh} (h : Own w w' s) {M : Nat → Nat → Nat} (e : ∀ i, i < s.G → ∀ j, j < s.L i → s.M i j = M i j) (hb : ∀ i j, M i j < 256) : Own w w' ⟨s.g, s.G, s.cap, s.gb, s.go, s.A, s.L, s.C, s.RB, s.RO, M⟩ :=
  ⟨⟨h.rd.at0, h.rd.hd, h.rd.to, fun r hr c hc => by have := h.rd.cell r hr c hc; rw [e r hr c hc] at this; exact this, hb⟩, h.lc, h.cap, h.off, h.top, fun q hq hL => ⟨(h.row q hq hL).1, (h.row q hq hL).2.1, (h.row q hq hL).2.2.congr (e q hq)⟩, h.inj, h.ne⟩
/-- the sums, when r rows are done and q of the next -/
def sumAt (X Y : Nat → Nat → Nat) (r q : Nat) : Nat → Nat → Nat := fun i j => if i < r ∨ (i = r ∧ j < q) then X i j ^^^ Y i j else X i j
theorem sumAt_lt {X Y : Nat → Nat → Nat} (hX : ∀ i j, X i j < 256) (hY : ∀ i j, Y i j < 256) (r q i j : Nat) : sumAt X Y r q i j < 256 := by
  unfold sumAt; split
  · exact xor8 (hX _ _) (hY _ _)
  · exact hX _ _
theorem sumAt_start (X Y : Nat → Nat → Nat) : sumAt X Y 0 0 = X := by funext i j; unfold sumAt; rw [if_neg (by omega)]
theorem sumAt_step (X Y : Nat → Nat → Nat) (r q i j : Nat) : (if i = r ∧ j = q then X r q ^^^ Y r q else sumAt X Y r q i j) = sumAt X Y r (q + 1) i j := by
  unfold sumAt
  by_cases e : i = r ∧ j = q
  · rw [if_pos e, if_pos (by omega), e.1, e.2]
  · rw [if_neg e]
    by_cases h : i < r ∨ i = r ∧ j < q
    · rw [if_pos h, if_pos (by omega)]
    · rw [if_neg h, if_neg (by omega)]
theorem sumAt_here (X Y : Nat → Nat → Nat) (r q : Nat) : sumAt X Y r q r q = X r q := by unfold sumAt; rw [if_neg (by omega)]
theorem sumAt_next (X Y : Nat → Nat → Nat) (r n i j : Nat) (hj : j < n) : sumAt X Y r n i j = sumAt X Y (r + 1) 0 i j := by
  unfold sumAt
  by_cases h : i < r ∨ i = r ∧ j < n
  · rw [if_pos h, if_pos (by omega)]
  · rw [if_neg h, if_neg (by omega)]
/-- sums of shards are the sums' shards -/
theorem sum_enc {K R n : Nat} {D E S : Nat → Nat → Nat} (hD : ∀ i j, D i j < 256) (hE : ∀ i j, E i j < 256) (hK : K ≤ R) (h : ∀ i, i < R → ∀ p, p < n → S i p = enc K D i p ^^^ enc K E i p) (i : Nat) (hi : i < R) (p : Nat) (hp : p < n) : enc K S i p = S i p := by
  rw [h i hi p hp, ← enc_xor]
  exact enc_congr (fun j hj => by rw [h j (by omega) p hp, enc_data hD hj, enc_data hE hj]) i

set_option maxRecDepth 100000 in
set_option maxHeartbeats 3200000 in
theorem linear_walk (k m n : Int) (a : Value) (la : Nat) (f : Nat → Nat) (b : Value) (lb : Nat) (g : Nat → Nat) (w : World) (ha : Bs w a la f) (hb : Bs w b lb g) (hp : Pows w) :
    Calls Tryd.prog 4 #[.int .i64 k, .int .i64 m, .int .i64 n, a, b] w fun e w' => e = .returned (.bool true) ∧ Kp (fun _ => False) w w' := by
  obtain ⟨K, M, N, ⟨b1, b2, b3, n1, n2⟩, hmade⟩ := madeX k m n
  obtain ⟨D, hD', hcall⟩ := hmade a la f w ha hp
  have HD : Hid (Calls _ _ _ w _) := hcall
  have hD : Hid (∀ i j, D i j < 256) := hD'
  have HM : Hid (∀ (a : Value) (la : Nat) (f : Nat → Nat) (w : World), Bs w a la f → Pows w → _) := hmade
  clear hmade hcall hD'
  obtain ⟨pa, ba, oa, ca, rfl, hpa, hc, hf⟩ := ha
  clear hpa hc hf
  go_enter Tryd.func4, Tryd.ntmps4
  go_wp2_with fail
  refine HD.out.mono ?_
  rintro e w1 ⟨t, B, rfl, k1, ht, hB, hM⟩
  clear HD
  obtain ⟨wa, hwa, ka, za, q1, q2⟩ := code_alloc w1 K M
  have k1a := k1.trans ka (fun _ _ e => e)
  have hMa := hM.keep ka id (fun _ _ => id)
  obtain ⟨E, hE', hcall2⟩ := HM.out b lb g wa (hb.keep k1a) (k1a.pows hp id)
  have HD2 : Hid (Calls _ _ _ wa _) := hcall2
  have hE : Hid (∀ i j, E i j < 256) := hE'
  obtain ⟨pb, bb, ob, cb, rfl, hpb, hcb, hg⟩ := hb
  clear HM hcall2 hE' hpb hcb hg
  go_wp2_with fail
  rw [← hwa]
  clear hwa hM
  refine HD2.out.mono ?_
  rintro e w2 ⟨u, B', rfl, k2, hu, hB', hM'⟩
  clear HD2
  obtain ⟨wb, hwb, kb, zb, _, _⟩ := code_alloc w2 K M
  have k2b := k2.trans kb (fun _ _ e => e)
  have kwb := k1a.trans k2b (fun _ _ e => e)
  have hMb := hMa.keep k2b id (fun _ _ => id)
  have hMb' := hM'.keep kb id (fun _ _ => id)
  have p1 := k2b.cellv q1 id
  have p2 := k2b.cellv q2 id
  have hnn1 := not_nil ⟨t, 0, none⟩ (K + M) (K + M)
  have hnn2 := not_nil ⟨u, 0, none⟩ (K + M) (K + M)
  have HT : Hid (Calls _ _ _ wb _) := texts_any (ofMat t B (K + M) N (enc K D)) wb hMb.rd (show (K + M) * 24 ≤ _ by omega) (fun _ _ => show N ≤ _ by omega)
  clear q1 q2 hMa hM'
  go_wp2_with fail
  rw [← hwb]
  clear hwb
  refine HT.out.mono ?_
  rintro e w3 ⟨gg, cap, gb, A, C, RB, rfl, k3, hO⟩
  clear HT hnn1 hnn2
  have s1 := k3.cellv p1 id
  have s2 := k3.cellv p2 id
  have hMy := hMb'.keep k3 id (fun _ _ => id)
  obtain rfl : gg = some ⟨gb, 0, none⟩ := hO.rd.at0 (show 0 < K + M by omega)
  obtain ⟨X, hX⟩ : ∃ x, x = enc K D := ⟨_, rfl⟩
  obtain ⟨Y, hY⟩ : ∃ x, x = enc K E := ⟨_, rfl⟩
  have HX : Hid (enc K D = X) := hX.symm
  have HY : Hid (enc K E = Y) := hY.symm
  have hXl : Hid (∀ i j, X i j < 256) := by rw [hX]; exact fun i j => enc_lt _ _ _ _
  have hYl : Hid (∀ i j, Y i j < 256) := by rw [hY]; exact fun i j => enc_lt _ _ _ _
  rw [← hX] at hO
  rw [← hY] at hMy
  have hul : u < wb.heap.size := hMb'.top.lt
  have hBl : Hid (∀ i, i < K + M → B' i < wb.heap.size) := fun i hi => (hMb'.row i hi).lt
  clear hX hY hMb hMb'
  have hRM : ((K + M : Nat) : Int) = (K : Int) + (M : Int) := by simp
  go_wp2
  go_loopg [46] (K + M) (fun gk i wr => ∃ r : Nat, r ≤ K + M ∧ gk = K + M - r ∧ i = .int .i64 r ∧ Kp (fun _ => False) wb wr ∧ Kp (fun b => wb.heap.size ≤ b) w3 wr ∧ Own wb wr ⟨some ⟨gb, 0, none⟩, K + M, cap, gb, 0, A, fun _ => N, C, RB, fun _ => 0, sumAt X Y r 0⟩)
  case atStart => exact ⟨0, Nat.zero_le _, rfl, rfl, k3, Kp.refl _ _, by rw [sumAt_start]; exact hO⟩
  case round =>
    obtain ⟨r, hr, rfl, rfl, hK, hK3, hOr⟩ := hrel
    by_cases hlt : (r : Int) < (K : Int) + (M : Int)
    · have e1 := hOr.rd.hd r (show r < K + M by omega)
      rw [hOr.rd.to r (show r < K + M by omega) 0 (show 0 < N by omega)] at e1
      simp only [Nat.zero_add] at e1
      obtain ⟨wr0, rfl⟩ : ∃ x, x = wr := ⟨_, rfl⟩
      go_wp2
      go_loopg [54] N (fun gk i wq => ∃ q : Nat, q ≤ N ∧ gk = N - q ∧ i = .int .i64 q ∧ Kp (fun _ => False) wb wq ∧ Kp (fun b => wb.heap.size ≤ b) w3 wq ∧ Own wb wq ⟨some ⟨gb, 0, none⟩, K + M, cap, gb, 0, A, fun _ => N, C, RB, fun _ => 0, sumAt X Y r q⟩)
      case atStart => exact ⟨0, Nat.zero_le _, rfl, rfl, hK, hK3, hOr⟩
      case round =>
        obtain ⟨q, hq, rfl, rfl, hKq, hK3q, hOq⟩ := hrel
        clear hOr e1 hK hK3
        by_cases hlq : (q : Int) < (N : Int)
        · have e1 := hOq.rd.hd r (show r < K + M by omega)
          rw [hOq.rd.to r (show r < K + M by omega) 0 (show 0 < N by omega)] at e1
          have e2 := hOq.rd.cell r (show r < K + M by omega) q (show q < N by omega)
          simp only [Nat.zero_add] at e1 e2
          rw [sumAt_here] at e2
          have e3 : wr.frozen? ⟨RB r, q, none⟩ = false := (hOq.row r (show r < K + M by omega) (show 0 < N by omega)).2.2.frozen q
          have y1 := hK3q.cellv (hMy.top.cell (i := r) (by omega)) (by show ¬ wb.heap.size ≤ u; omega)
          have y2 := hK3q.cellv ((hMy.row r (by omega)).cell (i := q) (by omega)) (by have := hBl.out r (by omega); show ¬ wb.heap.size ≤ B' r; omega)
          have hx := u8_xor_cast (X r q) (Y r q) (by have := hXl.out r q; omega) (by have := hYl.out r q; omega)
          simp only [By] at y2
          have hxl := xor8 (hXl.out r q) (hYl.out r q)
          have hrb : wb.heap.size ≤ RB r := (hOq.row r (show r < K + M by omega) (show 0 < N by omega)).2.1
          have HS : Hid (Own wb (wr.drew.setCell ⟨RB r, q, none⟩ (.int .u8 ((X r q ^^^ Y r q : Nat) : Int))) ⟨some ⟨gb, 0, none⟩, K + M, cap, gb, 0, A, fun _ => N, C, RB, fun _ => 0, sumAt X Y r (q + 1)⟩) := by
            have h := hOq.drew.setByte (i := r) (show r < K + M by omega) (j := q) (show q < N by omega) (X r q ^^^ Y r q) hxl
            exact h.congr (fun i _ j _ => sumAt_step X Y r q i j) (sumAt_lt hXl.out hYl.out _ _)
          clear hxl hOq
          go_wp2
          go_region
          all_goals
            go_wp2
            go_roundg (N - (q + 1))
            case rel => exact ⟨q + 1, by omega, rfl, by go_num, hKq.drew.setCell (a := ⟨RB r, q, none⟩) (fun h => absurd h (by show ¬ RB r < wb.heap.size; omega)) _, hK3q.drew.setCell (a := ⟨RB r, q, none⟩) (fun _ => hrb) _, HS.out⟩
            case measure => omega
        · have e : q = N := by omega
          have HS : Hid (Own wb wr ⟨some ⟨gb, 0, none⟩, K + M, cap, gb, 0, A, fun _ => N, C, RB, fun _ => 0, sumAt X Y (r + 1) 0⟩) := by
            subst e
            exact hOq.congr (fun i _ j hj => sumAt_next X Y r q i j hj) (sumAt_lt hXl.out hYl.out _ _)
          clear hOq
          go_wp2
          go_roundg (K + M - (r + 1))
          case rel => exact ⟨r + 1, by omega, rfl, by go_num, hKq, hK3q, HS.out⟩
          case measure => omega
    · have hrr : r = K + M := by omega
      have hlN : w1.heap.size < wb.heap.size := by have := k2b.size; omega
      have c1 := hK3.cellv s1 (by show ¬ wb.heap.size ≤ w1.heap.size; omega)
      have c2 := hK3.cellv s2 (by show ¬ wb.heap.size ≤ w1.heap.size; omega)
      have kw := kwb.trans hK (fun _ _ e => e)
      obtain ⟨S, hSe⟩ : ∃ x, x = sumAt X Y r 0 := ⟨_, rfl⟩
      rw [← hSe] at hOr
      have HS : Hid (∀ i, i < K + M → ∀ p, p < N → enc K S i p = S i p) := fun i hi p hp => sum_enc (S := S) hD.out hE.out (show K ≤ K + M by omega) (fun i hi p _ => by rw [hSe, HX.out, HY.out]; unfold sumAt; rw [if_pos (by omega)]) i hi p hp
      clear hSe
      have hcap : (K : Int) ≤ (cap : Int) := by have : K + M ≤ cap := hOr.cap; omega
      have HE : Hid (∀ w' cap, Kp (fun _ => False) wr w' → Calls _ _ #[_, .slice _ _ cap] w' _) := fun w' cap k' => encode_yes K M N ⟨some ⟨gb, 0, none⟩, K, cap, gb, 0, A, fun _ => N, C, RB, fun _ => 0, S⟩ w' (by
        have h := hOr.rd.keep k'
        exact ⟨fun _ => rfl, fun r hr => h.hd r (by simp only at hr ⊢; omega), fun r hr => h.to r (by simp only at hr ⊢; omega), fun r hr => h.cell r (by simp only at hr ⊢; omega), h.byte⟩) rfl (fun _ _ => rfl) (by omega) (by omega) (k'.pows (kw.pows hp id) id) (by omega) (by omega)
      have HR : Hid (Rd wr ⟨some ⟨gb, 0, none⟩, K + M, cap, gb, 0, A, fun _ => N, C, RB, fun _ => 0, S⟩) := hOr.rd
      clear hOr hO hMy s1 s2
      go_wp2
      go_region_with (go_at_call 9; refine (HE.out _ _ (by exact ⟨rfl, rfl, rfl, Nat.le_refl _, fun _ _ _ => rfl⟩)).mono ?_; rintro e w4 ⟨t4, B4, rfl, k4, _, _, hM4⟩)
      all_goals
        have k4' : Kp (fun _ => False) wr w4 := ((Kp.refl (fun _ => False) wr).drew).trans k4 (fun _ _ e => e)
        have kw4 := kw.trans k4' (fun _ _ e => e)
        have d1 := k4'.cellv c1 id
        have d2 := k4'.cellv c2 id
        have hR4 := HR.out.keep k4'
        have HSm : Hid (Calls _ _ _ w4 _) := sameX _ (.slice (some ⟨gb, 0, none⟩) (K + M) cap) (K + M) N _ S w4 hM4.mx ⟨_, rfl, hR4, rfl, fun _ _ => rfl, rfl⟩ (fun i hi j hj => HS.out i hi j hj) (by omega)
        have HRt : Hid (Calls _ _ _ w4 _) := right_all K M N ⟨some ⟨gb, 0, none⟩, K + M, cap, gb, 0, A, fun _ => N, C, RB, fun _ => 0, S⟩ w4 hR4 rfl (fun _ _ => rfl) (by omega) (by omega) (kw4.pows hp id) (by omega) (by omega) hcap true (fun _ i hi p hp => HS.out i hi p hp) (fun h => by cases h)
        clear HE hR4
        go_wp2_with fail
        refine HSm.out.mono ?_
        rintro e w5 ⟨rfl, hw⟩
        obtain rfl := hw.symm
        go_wp2_with fail
        refine HRt.out.mono ?_
        rintro e w6 ⟨rfl, k6⟩
        go_wp2
        go_ret
        exact ⟨rfl, kw4.trans k6 (fun _ _ e => e)⟩
end Go.Proofs.YtkhgaigipfolaaaDoor
