/- The walk of the reference's Invert. -/
import Derived.Test.YtbmhfclknilcoaaDoorM15
import Derived.Test.YtbmhfclknilcoaaDoorMgAI
import Derived.RegionTactic
import Derived.BigRegion
import Derived.StillTailTactics
namespace Go.Proofs.YtbmhfclknilcoaaDoor
open Go.RowKit Go.Deep

/-- the row c, of which k of each half are multiplied -/
def scl (V : Nat → Nat → Nat) (n c b k : Nat) : Nat → Nat → Nat := fun r q => if r = c ∧ (q < k ∨ (n ≤ q ∧ q < n + k)) then Gf.mul (V c q) b else V r q
theorem scl_zero (V : Nat → Nat → Nat) (n c b : Nat) : scl V n c b 0 = V := by
  funext r q; unfold scl; rw [if_neg (by omega)]
theorem scl_lt {V : Nat → Nat → Nat} (h : ∀ r q, V r q < 256) (n c b k r q : Nat) : scl V n c b k r q < 256 := by
  unfold scl; split
  · exact Gf.mul_lt _ _
  · exact h _ _
theorem scl_here (V : Nat → Nat → Nat) (n c b k : Nat) (hk : k < n) : scl V n c b k c k = V c k := by unfold scl; rw [if_neg (by omega)]
theorem scl_here2 (V : Nat → Nat → Nat) (n c b k : Nat) : scl V n c b k c (n + k) = V c (n + k) := by
  unfold scl
  by_cases h : c = c ∧ (n + k < k ∨ n ≤ n + k ∧ n + k < n + k)
  · omega
  · rw [if_neg h]
/-- the rows, of which the first k are cleared -/
def clr (U : Nat → Nat → Nat) (c k : Nat) : Nat → Nat → Nat := fun r q => if r < k ∧ r ≠ c then U r q ^^^ Gf.mul (U c q) (U r c) else U r q
theorem clr_zero (U : Nat → Nat → Nat) (c : Nat) : clr U c 0 = U := by funext r q; unfold clr; rw [if_neg (by omega)]
theorem clr_here (U : Nat → Nat → Nat) (c k q : Nat) : clr U c k k q = U k q := by unfold clr; rw [if_neg (by omega)]
theorem clr_piv (U : Nat → Nat → Nat) (c k q : Nat) : clr U c k c q = U c q := by unfold clr; rw [if_neg (by omega)]
theorem clr_skip {U : Nat → Nat → Nat} {c k : Nat} (h : k = c ∨ U k c = 0) (r q : Nat) : clr U c k r q = clr U c (k + 1) r q := by
  unfold clr
  by_cases e : r = k
  · subst e
    rw [if_neg (by omega)]
    rcases h with h | h
    · rw [if_neg (by omega)]
    · split
      · rw [h, Gf.mul_zero, Nat.xor_zero]
      · rfl
  · by_cases h2 : r < k ∧ r ≠ c
    · rw [if_pos h2, if_pos (by omega)]
    · rw [if_neg h2, if_neg (by omega)]
theorem clr_cleared {U : Nat → Nat → Nat} {c n : Nat} (h0 : ∀ q, q < c → U c q = 0) (r : Nat) (hr : r < n) (q : Nat) : clr U c n r q = cleared U c r q := by
  rw [cleared_all h0]
  unfold clr
  by_cases e : r = c
  · rw [if_neg (by omega), if_pos e, e]
  · rw [if_pos (by omega), if_neg e]

/-- what the scaling and the exchange come to -/
theorem scl_brought {W : Nat → Nat → Nat} {n c p : Nat} (r q : Nat) (hq : q < 2 * n) : scl (swp W c p) n c (Gf.inv (W p c)) n r q = brought W c p r q := by
  unfold scl brought swp
  by_cases e : r = c
  · rw [if_pos ⟨e, by omega⟩, if_pos e, if_pos rfl]
  · rw [if_neg (by omega), if_neg e, if_neg e]
    by_cases e2 : r = p
    · rw [if_pos e2, if_pos e2]
    · rw [if_neg e2, if_neg e2]

set_option maxRecDepth 100000 in
set_option maxHeartbeats 6400000 in
theorem refInvert_any (s : Sh) (n : Nat) (w : World) (hs : Rd w s) (hG : s.G = n) (hL : ∀ r, r < n → s.L r = n) (h1 : 1 ≤ (n : Int)) (h2 : (n : Int) ≤ 255) :
    Calls Tryd.prog 26 #[.slice s.g n s.cap] w fun e w' => Kp (fun _ => False) w w' ∧
      ((e = .returned (.tuple #[.slice none 0 0, .int .i64 20]) ∧ ∃ i W, i < n ∧ El s.M n i W ∧ NoPiv W n i) ∨
        ∃ to cap B C W, e = .returned (.tuple #[.slice (some ⟨to, 0, none⟩) n cap, .int .i64 0]) ∧ El s.M n n W ∧ Mo w' to B C n (right W n)) := by
  have HS : Hid (Calls _ _ _ w _) := refIs_any s w hs
  have ms : isM s = true := decide_eq_true ⟨by omega, by omega, by rw [hL 0 (by omega)]; omega, by rw [hL 0 (by omega)]; omega, fun r hr => by rw [hL r (by omega), hL 0 (by omega)]⟩
  rw [ms, hG] at HS
  have c1 := hs.hd 0 (by omega)
  rw [hL 0 (by omega)] at c1
  rw [hs.at0 (by omega)] at HS ⊢
  simp only [Nat.add_zero] at c1
  have HL : Hid (∀ r, r < n → s.L r = n) := hL
  have hnn : ((n : Int) != (n : Int)) = false := bne_self_eq_false _
  obtain ⟨ti, hi0, hz0, hz1, hz2⟩ := info_parts info42
  obtain ⟨tb, hb0, hy0, hy1, hy2⟩ := info_parts info5
  clear ms hL
  go_enter Tryd.func26, Tryd.ntmps26
  go_wp2_with fail
  refine HS.out.mono ?_
  rintro e w' ⟨rfl, hw⟩
  obtain rfl := hw.symm
  go_wp2_with fail
  refine (refIdentity_yes n _ h1 h2).mono ?_
  rintro e w1 ⟨vo, Bo, rfl, hGa⟩
  clear HS c1 hnn
  go_wp2
  go_loopg [7, 38] n (fun gk v i wr => ∃ (k : Nat) (A : Nat → Option Addr) (C RB : Nat → Nat), k ≤ n ∧ gk = n - k ∧ i = .int .i64 k ∧ TxA w1 wr s v k A C RB)
  case atStart => exact ⟨0, _, _, _, Nat.zero_le _, rfl, rfl, TxA.start w1 s⟩
  case round =>
    obtain ⟨k, A, C, RB, hk, rfl, rfl, hT⟩ := hrel
    by_cases hlt : (k : Int) < (n : Int)
    · have c1 := hT.kept.cellv (hGa.kept.cellv (hs.hd k (by omega)) id) id
      rw [HL.out k (by omega), hs.to k (by omega) 0 (by rw [HL.out k (by omega)]; omega)] at c1
      have HC : Hid (∀ j u, (vals (s.M k) n)[j]? = some u → (wr.alloc (.cells #[] 5)).cell? ((⟨s.RB k, s.RO k, none⟩ : Addr).add j) = some u) := fun j u hj => by
        obtain ⟨hj', rfl⟩ := vals_get hj
        rw [addr_add]
        exact ((Kp.refl (fun _ => False) wr).alloc _).cellv (hT.kept.cellv (hGa.kept.cellv (hs.cell k (by omega) j (by rw [HL.out k (by omega)]; exact hj')) id) id) id
      have hO := hT.own
      have hwz := hT.kept.size
      have HLk : Hid (s.L k = n) := HL.out k (by omega)
      go_wp2_with (at_builtin; go_must (refine wpList_append_own_at _ rfl _ _ 30 rfl wr.heap.size 5 tb (.int .u8 0) 1 1 Tryd.underlying30 hb0 hy0 hy1 hy2 rfl (by decide) _ _ _ rfl (empty_own wr) ⟨s.RB k, s.RO k, none⟩ n (s.C k) (vals (s.M k) n) rfl (by simp [vals_length]) HC.out (vals_one _ n) (by unfold maxLen; omega) (by omega) (by simp) ?_))
      intro v' w3 hown' hgrow3 hnil3 hblk3
      have hown2 : w3.ownsRow wr.heap.size 5 1 v' n (vals (s.M k) n) := by simpa using hown'
      have k3 : Kp (fun _ => False) wr w3 := Kp.trans ((Kp.refl _ _).alloc _) (grownBy_kp hgrow3) (fun b hb e => by
        have e' : some wr.heap.size = some b := e
        have := Option.some.inj e'
        omega)
      obtain ⟨p, c', b, rfl, hrow⟩ := own_row hown2
      have hO3 := ownsRow_keep hO k3
      have hw3 := k3.size
      have HR : Hid (0 < s.L k → p = some ⟨b, 0, none⟩ ∧ wr.heap.size ≤ b ∧ s.L k ≤ c' ∧ RowB w3 b c' (s.L k) (s.M k)) := by
        show 0 < s.L k → _
        rw [HLk.out]; exact hrow
      have HT : Hid (TxA w1 wr _ _ _ _ _ _) := hT
      clear hrow HC c1 hO hT hown' hown2 hgrow3 hnil3 hblk3
      go_wp2_with (at_builtin; go_must (refine wpList_append_own_at _ rfl _ _ 24 rfl w1.heap.size 30 ti (.slice none 0 0) 1 24 Tryd.underlying24 hi0 hz0 hz1 hz2 rfl (by decide) _ _ _ rfl (hO3.alloc _) ⟨w3.heap.size, 0, none⟩ 1 1 [.slice p n c'] rfl rfl (cell_one_new _ _ _) (fun x hx => by simp at hx; subst hx; rfl) (by unfold maxLen; omega) (by omega) (by simp; omega) ?_); intro v4 w4 hown4 hgrow4 hnil4 hblk4)
      go_roundg (n - (k + 1))
      case rel => exact ⟨k + 1, _, _, _, by omega, rfl, by go_num, HT.out.step k3 HR.out (by rw [HLk.out]; exact hown4) hgrow4 hblk4⟩
      case measure => omega
    · obtain rfl : n = k := by omega
      obtain ⟨to, capo, rfl, hto, hTo⟩ := TopB.of_own (w := wr) (h := fun i => .slice (some ⟨Bo i, 0, none⟩) n n) (ownsRow_keep hGa.own hT.kept) (by omega) (fun j hj => hdrs_at Bo n hj)
      have hrw : ∀ j, j < n → A j = some ⟨RB j, 0, none⟩ ∧ w1.heap.size ≤ RB j ∧ n ≤ C j ∧ RowB wr (RB j) (C j) n (s.M j) := fun j hj => by
        have := hT.row j hj (by rw [HL.out j hj]; omega)
        rw [HL.out j hj] at this; exact this
      obtain ⟨tl, capl, rfl, htl, hTl⟩ := TopB.of_own (w := wr) (h := fun i => .slice (some ⟨RB i, 0, none⟩) n (C i)) hT.own (by omega) (fun j hj => by
        rw [hdrs3_at A s.L C hj, (hrw j hj).1, HL.out j hj])
      have hto1 : to < w1.heap.size := (ownBlock_lt hGa.own (g := to) rfl).2
      have hsz1 := hGa.kept.size
      have hTw0 : Two w wr tl to RB C Bo (fun _ => n) n (wide s.M n) := by
        refine ⟨hGa.kept.trans hT.kept (fun _ _ e => e), ⟨hTl, fun i hi => ((hrw i hi).2.2.2).congr (fun c hc => (wide_left s.M i hc).symm), fun i j hi hj e => hT.inj i j hi hj (by rw [HL.out i hi]; omega) (by rw [HL.out j hj]; omega) e, fun i hi e => hT.ne i hi (by rw [HL.out i hi]; omega) (by simp [Value.ownBlock, e])⟩,
          ⟨hTo, fun i hi => (RowB.of_row (hT.kept.row (hGa.row i hi) id) (Nat.le_refl _)).congr (fun c _ => (wide_right s.M n c hi).symm), hGa.inj, fun i hi e => hGa.ne i hi (by simp [Value.ownBlock, e])⟩,
          ⟨by omega, fun i hi => by have := (hrw i hi).2.1; omega⟩, ⟨hto, hGa.lo⟩, by omega, fun i hi => ⟨by have := (hrw i hi).2.1; omega, by have := (hGa.row i hi).lt; omega⟩, fun i j hi hj => by have := (hrw i hi).2.1; have := (hGa.row j hj).lt; omega⟩
      have hbs : Hid (∀ i j, s.M i j < 256) := hs.byte
      clear hT hGa hrw hTl hTo hs hG HL
      go_wp2
      go_loopg [50] n (fun gk x wq => ∃ (c : Nat) (Bl Cl Bo Co : Nat → Nat) (W : Nat → Nat → Nat), c ≤ n ∧ gk = n - c ∧ x = .int .i64 c ∧ Two w wq tl to Bl Cl Bo Co n W ∧ El s.M n c W)
      case atStart => exact ⟨0, _, _, _, _, _, Nat.zero_le _, rfl, rfl, hTw0, .start⟩
      case round =>
        obtain ⟨c, Bl, Cl, Bo, Co, W, hc, rfl, rfl, hTw, hE⟩ := hrel
        clear hTw0
        obtain ⟨wc, rfl⟩ : ∃ x, x = wr := ⟨_, rfl⟩
        by_cases hlt2 : (c : Int) < (n : Int)
        · have hkp := hE.keeps hbs.out
          have HE : Hid (El s.M n c W) := hE
          clear hE
          go_wp2
          go_loopg [11] (n - c) (fun gk x wq => ∃ p : Nat, c ≤ p ∧ p ≤ n ∧ gk = n - p ∧ x = .int .i64 p ∧ Hid (∀ j, c ≤ j → j < p → W j c = 0) ∧ wq = wc)
          case atStart => exact ⟨c, Nat.le_refl _, hc, rfl, rfl, fun j h1 h2 => by omega, rfl⟩
          case round =>
            obtain ⟨p, hp1, hp2, rfl, rfl, hpz, rfl⟩ := hrel
            by_cases hpn : (p : Int) < (n : Int)
            · have e1 := hTw.left.top.cell (i := p) (by omega)
              have e2 := (hTw.left.row p (by omega)).cell (i := c) (by omega)
              have l0 := hkp.byte p c
              by_cases hz : W p c = 0
              · have d0 : ((W p c : Int) == 0) = true := by rw [hz]; rfl
                have HZ : Hid (W p c = 0) := hz
                clear hz
                go_wp2
                go_roundg (n - (p + 1))
                case rel => exact ⟨p + 1, by omega, by omega, rfl, by go_num, fun j a b => by
                  by_cases e : j = p
                  · rw [e]; exact HZ.out
                  · exact hpz.out j a (by omega), rfl⟩
                case measure => omega
              · have d0 : ((W p c : Int) == 0) = false := beq_eq_false_iff_ne.2 (by omega)
                have HPv : Hid (Piv W n c p) := ⟨hp1, by omega, hz, hpz.out⟩
                have dpn : ((p : Int) == (n : Int)) = false := beq_eq_false_iff_ne.2 (by omega)
                have f1 := hTw.left.top.cell (i := c) (by omega)
                have f2 := hTw.left.top.frozen c
                have f3 := hTw.left.top.frozen p
                have f4 := (hTw.left.top.set c (.slice (some ⟨Bl p, 0, none⟩) n (Cl p))).cell (i := p) (by omega)
                have f5 := (hTw.left.top.set c (.slice (some ⟨Bl p, 0, none⟩) n (Cl p))).frozen p
                clear hz
                go_wp2
                go_region
                obtain ⟨wx, hwx⟩ : ∃ x, x = ((wr.setCell ⟨tl, c, none⟩ (.slice (some ⟨Bl p, 0, none⟩) n (Cl p))).setCell ⟨tl, p, none⟩ (.slice (some ⟨Bl c, 0, none⟩) n (Cl c))).drew := ⟨_, rfl⟩
                have hTx := (hTw.exchL (i := c) (j := p) (by omega) (by omega)).drew
                rw [← hwx] at hTx
                rw [← hwx]
                have g1 := hTx.out.top.cell (i := c) (by omega)
                have g2 := hTx.out.top.cell (i := p) (by omega)
                have g3 := hTx.out.top.frozen c
                have g4 := hTx.out.top.frozen p
                have g5 := (hTx.out.top.set c (.slice (some ⟨Bo p, 0, none⟩) n (Co p))).cell (i := p) (by omega)
                have g6 := (hTx.out.top.set c (.slice (some ⟨Bo p, 0, none⟩) n (Co p))).frozen p
                clear f1 f2 f3 f4 f5 e1 e2 hwx hTw d0 dpn
                go_wp2
                go_region
                obtain ⟨wy, hwy⟩ : ∃ x, x = ((wx.setCell ⟨to, c, none⟩ (.slice (some ⟨Bo p, 0, none⟩) n (Co p))).setCell ⟨to, p, none⟩ (.slice (some ⟨Bo c, 0, none⟩) n (Co c))).drew := ⟨_, rfl⟩
                have hTy : Two w wy tl to (swp Bl c p) (swp Cl c p) (swp Bo c p) (swp Co c p) n (swp W c p) := by
                  rw [hwy]
                  refine ((hTx.exchO (i := c) (j := p) (by omega) (by omega)).drew).congr (fun r _ q _ => ?_)
                  unfold swp
                  by_cases hq : n ≤ q
                  · have hq' : ¬ q < n := by omega
                    by_cases a1 : r = c
                    · subst a1; simp [hq, hq']
                    · by_cases a2 : r = p
                      · subst a2; simp [hq, hq', a1]
                      · simp [hq, hq', a1, a2]
                  · have hq' : q < n := by omega
                    by_cases a1 : r = c
                    · subst a1; simp [hq, hq']
                    · by_cases a2 : r = p
                      · subst a2; simp [hq, hq', a1]
                      · simp [hq, hq', a1, a2]
                rw [← hwy]
                have hVl : Hid (∀ r q, swp W c p r q < 256) := fun r q => by
                  unfold swp; split
                  · exact hkp.byte _ _
                  · split <;> exact hkp.byte _ _
                have hVcc : Hid (swp W c p c c = W p c) := by show _ = _; unfold swp; rw [if_pos rfl]
                have hb1 := hkp.byte p c
                have HI : Hid (Calls _ _ _ wy _) := rinv_some (W p c) wy hb1 HPv.out.2.2.1
                have HB : Hid (∀ r q, q < 2 * n → scl (swp W c p) n c (Gf.inv (W p c)) n r q = brought W c p r q) := fun r q hq => scl_brought r q hq
                have hbl := Gf.inv_lt (W p c) hb1
                clear g1 g2 g3 g4 g5 g6 hwy hTx
                generalize swp Bl c p = Bl' at *
                generalize swp Cl c p = Cl' at *
                generalize swp Bo c p = Bo' at *
                generalize swp Co c p = Co' at *
                obtain ⟨V, hV⟩ : ∃ x, x = swp W c p := ⟨_, rfl⟩
                rw [← hV] at hTy hVl hVcc HB
                clear hV
                have f1 := hTy.left.top.cell (i := c) (by omega)
                have f2 := (hTy.left.row c (by omega)).cell (i := c) (by omega)
                rw [hVcc.out] at f2
                go_wp2_with fail
                refine HI.out.mono ?_
                rintro e w' ⟨rfl, hw'⟩
                obtain rfl := hw'.symm
                obtain ⟨bv, hbv⟩ : ∃ x, x = Gf.inv (W p c) := ⟨_, rfl⟩
                rw [← hbv] at HB hbl
                rw [← hbv]
                clear hbv HI f1 f2
                go_wp2
                go_loopg [112] n (fun gk x wq => ∃ k : Nat, k ≤ n ∧ gk = n - k ∧ x = .int .i64 k ∧ Two w wq tl to Bl' Cl' Bo' Co' n (scl V n c bv k))
                case atStart => exact ⟨0, Nat.zero_le _, rfl, rfl, by rw [scl_zero]; exact hTy⟩
                case round =>
                  obtain ⟨k, hk, rfl, rfl, hTk⟩ := hrel
                  clear hTy
                  by_cases hlk : (k : Int) < (n : Int)
                  · have f1 := hTk.left.top.cell (i := c) (by omega)
                    have f2 := (hTk.left.row c (by omega)).cell (i := k) (by omega)
                    have f3 := (hTk.left.row c (by omega)).frozen k
                    rw [scl_here V n c bv k (by omega)] at f2
                    have l1 := hVl.out c k
                    have l2 := hVl.out c (n + k)
                    go_wp2
                    refine wp_region_still_tail 14 mixed (by kernel_rfl) ?_
                    simp only [List.take_succ_cons, List.take_zero, List.drop_succ_cons, List.drop_zero]
                    repeat still_step
                    still_call (rmul_nat (V c k) bv _ (by omega) (by omega))
                    refine wpStill_nil ?_
                    go_wp2
                    obtain ⟨wy, hwy⟩ : ∃ x, x = (wr.setCell ⟨Bl' c, k, none⟩ (.int .u8 ((Gf.mul (V c k) bv : Nat) : Int))).drew := ⟨_, rfl⟩
                    have hTy1 := hTk.updL (w' := wy) (i := c) (by omega) (by rw [hwy]; exact ((Kp.refl (fun b => b = Bl' c) wr).setCell (a := ⟨Bl' c, k, none⟩) (fun _ => rfl) _).drew) (by rw [hwy]; exact ((hTk.left.row c (by omega)).set k (Gf.mul (V c k) bv)).drew)
                    rw [← hwy]
                    have g1 := hTy1.out.top.cell (i := c) (by omega)
                    have g2 := (hTy1.out.row c (by omega)).cell (i := k) (by omega)
                    have g3 := (hTy1.out.row c (by omega)).frozen k
                    rw [if_neg (show ¬ (c = c ∧ n + k < n) by omega), scl_here2] at g2
                    clear f1 f2 f3 hwy hTk
                    go_wp2
                    refine wp_region_still_tail 14 mixed (by kernel_rfl) ?_
                    simp only [List.take_succ_cons, List.take_zero, List.drop_succ_cons, List.drop_zero]
                    repeat still_step
                    still_call (rmul_nat (V c (n + k)) bv _ (by omega) (by omega))
                    refine wpStill_nil ?_
                    go_wp2
                    obtain ⟨wz, hwz⟩ : ∃ x, x = (wy.setCell ⟨Bo' c, k, none⟩ (.int .u8 ((Gf.mul (V c (n + k)) bv : Nat) : Int))).drew := ⟨_, rfl⟩
                    have hTz1 := hTy1.updO (w' := wz) (i := c) (by omega) (by rw [hwz]; exact ((Kp.refl (fun b => b = Bo' c) wy).setCell (a := ⟨Bo' c, k, none⟩) (fun _ => rfl) _).drew) (by rw [hwz]; exact ((hTy1.out.row c (by omega)).set k (Gf.mul (V c (n + k)) bv)).drew)
                    rw [← hwz]
                    have HT2 : Hid (Two w wz tl to Bl' Cl' Bo' Co' n (scl V n c bv (k + 1))) := hTz1.congr (fun r _ q hq => by
                      unfold scl
                      by_cases e : r = c
                      · subst e
                        by_cases hqn : q < n
                        · have h1 : ¬ n ≤ q := by omega
                          by_cases hqk : q = k
                          · subst hqk; simp [h1, hqn]
                          · by_cases hq2 : q < k
                            · have : q < k + 1 := by omega
                              simp [h1, hqn, hqk, hq2, this]
                            · have : ¬ q < k + 1 := by omega
                              simp [h1, hqn, hqk, hq2, this]
                        · have h1 : n ≤ q := by omega
                          obtain ⟨q', rfl⟩ : ∃ q', q = n + q' := ⟨q - n, by omega⟩
                          have h2 : ¬ n + q' < k := by omega
                          have h3 : ¬ n + q' < k + 1 := by omega
                          by_cases hqk : q' = k
                          · subst hqk; simp [h1, h3]
                          · by_cases hq2 : q' < k
                            · have : q' < k + 1 := by omega
                              simp [h1, hqn, hqk, hq2, this]
                            · have : ¬ q' < k + 1 := by omega
                              simp [h1, hqn, hqk, hq2, this, h2, h3]
                      · simp [e])
                    clear hTz1 hTy1 g1 g2 g3 hwz
                    go_wp2
                    go_roundg (n - (k + 1))
                    case rel => exact ⟨k + 1, by omega, rfl, by go_num, HT2.out⟩
                    case measure => omega
                  · obtain rfl : n = k := by omega
                    obtain ⟨U, hU⟩ : ∃ x, x = brought W c p := ⟨_, rfl⟩
                    have hkb := keeps_brought hkp (by omega) HPv.out
                    rw [← hU] at hkb
                    have hUl : Hid (∀ r q, U r q < 256) := hkb.1.byte
                    have hU0 : Hid (∀ q, q < c → U c q = 0) := hkb.2.1
                    have hTu : Two w wr tl to Bl' Cl' Bo' Co' n U := hTk.congr (fun r _ q hq => by rw [HB.out r q hq, hU])
                    have HEs : Hid (El s.M n (c + 1) (cleared U c)) := by rw [hU]; exact .step HE.out (by omega) HPv.out
                    clear hTk hkb hU HB HE HPv hVl hVcc hkp
                    go_wp2
                    go_loopg [147] n (fun gk x wq => ∃ r : Nat, r ≤ n ∧ gk = n - r ∧ x = .int .i64 r ∧ Two w wq tl to Bl' Cl' Bo' Co' n (clr U c r))
                    case atStart => exact ⟨0, Nat.zero_le _, rfl, rfl, by rw [clr_zero]; exact hTu⟩
                    case round =>
                      obtain ⟨r, hr, rfl, rfl, hTr⟩ := hrel
                      clear hTu
                      by_cases hlr : (r : Int) < (n : Int)
                      · have f1 := hTr.left.top.cell (i := r) (by omega)
                        have f2 := (hTr.left.row r (by omega)).cell (i := c) (by omega)
                        rw [clr_here] at f2
                        have l1 := hUl.out r c
                        by_cases hrc : r = c
                        · have d1 : ((r : Int) != (c : Int)) = false := by rw [hrc]; exact bne_self_eq_false _
                          have HT2 : Hid (Two w wr tl to Bl' Cl' Bo' Co' n (clr U c (r + 1))) := hTr.congr (fun a _ q _ => clr_skip (Or.inl hrc) a q)
                          clear hrc
                          go_wp2
                          go_roundg (n - (r + 1))
                          case rel => exact ⟨r + 1, by omega, rfl, by go_num, HT2.out⟩
                          case measure => omega
                        · have d1 : ((r : Int) != (c : Int)) = true := bne_iff_ne.2 (by omega)
                          by_cases hx0 : U r c = 0
                          · have d2 : ((U r c : Int) != 0) = false := by rw [hx0]; rfl
                            have HT2 : Hid (Two w wr tl to Bl' Cl' Bo' Co' n (clr U c (r + 1))) := hTr.congr (fun a _ q _ => clr_skip (Or.inr hx0) a q)
                            clear hx0
                            go_wp2
                            go_roundg (n - (r + 1))
                            case rel => exact ⟨r + 1, by omega, rfl, by go_num, HT2.out⟩
                            case measure => omega
                          · have d2 : ((U r c : Int) != 0) = true := bne_iff_ne.2 (by omega)
                            have f3 := hTr.left.top.cell (i := c) (by omega)
                            have HRC : Hid (r ≠ c) := hrc
                            have HA1 : Hid (∀ w', Kp (fun _ => False) wr w' → Calls _ _ _ w' _) := fun w' k' => refAdd_any (Bl' r) (Cl' r) (Cl' r) (Bl' c) (Cl' c) n (U r) (U c) (U r c) w' (hUl.out r) (hUl.out c) (by omega)
                              (((hTr.left.row r (by omega)).keep k' id).congr (fun q _ => clr_here U c r q)) (fun q hq => by have := ((hTr.left.row c (by omega)).keep k' id).cell hq; rw [clr_piv] at this; exact this) (fun e => hrc (hTr.left.inj c r (by omega) (by omega) e).symm) (by omega)
                            clear hx0 hrc
                            go_wp2
                            go_still_tail 9, mixed
                            go_wp2_with (go_at_call 47; refine (HA1.out _ (by exact ⟨rfl, rfl, rfl, Nat.le_refl _, fun _ _ _ => rfl⟩)).mono ?_; rintro e w2 ⟨rfl, k2, z2, r2⟩)
                            have k2' : Kp (fun b => b = Bl' r) wr w2 := ((Kp.refl (fun b => b = Bl' r) wr).drew).trans k2 (fun _ _ e => e)
                            have hTr2 := hTr.updL (w' := w2) (i := r) (by omega) k2' r2
                            have g1 := hTr2.out.top.cell (i := r) (by omega)
                            have g2 := hTr2.out.top.cell (i := c) (by omega)
                            have HA2 : Hid (∀ w', Kp (fun _ => False) w2 w' → Calls _ _ _ w' _) := fun w' k' => refAdd_any (Bo' r) (Co' r) (Co' r) (Bo' c) (Co' c) n (fun q => U r (n + q)) (fun q => U c (n + q)) (U r c) w' (fun q => hUl.out r _) (fun q => hUl.out c _) (by omega)
                              (((hTr2.out.row r (by omega)).keep k' id).congr (fun q _ => by rw [if_neg (by omega)]; exact clr_here U c r (n + q))) (fun q hq => by have := ((hTr2.out.row c (by omega)).keep k' id).cell hq; rw [if_neg (by omega), clr_piv] at this; exact this) (fun e => HRC.out (hTr2.out.inj c r (by omega) (by omega) e).symm) (by omega)
                            clear HA1 f1 f2 f3 hTr
                            go_wp2
                            go_still_tail 9, mixed
                            go_wp2_with (go_at_call 47; refine (HA2.out _ (by exact ⟨rfl, rfl, rfl, Nat.le_refl _, fun _ _ _ => rfl⟩)).mono ?_; rintro e w3 ⟨rfl, k3, z3, r3⟩)
                            have k3' : Kp (fun b => b = Bo' r) w2 w3 := ((Kp.refl (fun b => b = Bo' r) w2).drew).trans k3 (fun _ _ e => e)
                            have HT2 : Hid (Two w w3 tl to Bl' Cl' Bo' Co' n (clr U c (r + 1))) := (hTr2.updO (w' := w3) (i := r) (by omega) k3' r3).congr (fun a _ q hq => by
                              by_cases e : a = r
                              · subst e
                                have hrc := HRC.out
                                by_cases hqn : n ≤ q
                                · have : ¬ q < n := by omega
                                  have h3 : q - n < n := by omega
                                  have h4 : n + (q - n) = q := by omega
                                  simp [hqn, plusRow, clr, hrc, h3, h4]
                                · have : q < n := by omega
                                  simp [hqn, this, plusRow, clr, hrc]
                              · simp only [e, false_and, if_false]
                                unfold clr
                                by_cases h5 : a < r ∧ a ≠ c
                                · rw [if_pos h5, if_pos (by omega)]
                                · rw [if_neg h5, if_neg (by omega)])
                            clear HA2 g1 g2 hTr2
                            go_wp2
                            go_roundg (n - (r + 1))
                            case rel => exact ⟨r + 1, by omega, rfl, by go_num, HT2.out⟩
                            case measure => omega
                      · obtain rfl : n = r := by omega
                        have HTf : Hid (Two w wr tl to Bl' Cl' Bo' Co' n (cleared U c)) := hTr.congr (fun a ha q _ => clr_cleared hU0.out a ha q)
                        clear hTr
                        go_wp2
                        go_roundg (n - (c + 1))
                        case rel => exact ⟨c + 1, _, _, _, _, _, by omega, rfl, by go_num, HTf.out, HEs.out⟩
                        case measure => omega
            · obtain rfl : n = p := by omega
              have HNo : Hid (NoPiv W n c) := fun j a b => hpz.out j a b
              have dpn : ((n : Int) == (n : Int)) = true := beq_self_eq_true _
              go_wp2
              go_ret2
              exact ⟨hTw.kept, Or.inl ⟨rfl, c, by omega, W, HE.out, HNo.out⟩⟩
        · obtain rfl : n = c := by omega
          go_wp2
          go_ret2
          exact ⟨hTw.kept, Or.inr ⟨to, ⟨capo, rfl⟩, Bo, Co, W, hE, hTw.out⟩⟩
end Go.Proofs.YtbmhfclknilcoaaDoor
