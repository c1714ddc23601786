/- The walks of slices.IndexFunc and ContainsFunc at Join's test, and of stripe.Join. -/
import Derived.Test.YtmncocmeafcpfaaDoorMfS1
import Derived.Test.YtmncocmeafcpfaaDoorMfR5
namespace Go.Proofs.YtmncocmeafcpfaaDoor.Mf
open Go.RowKit Go.Deep

/-- a text that is neither empty nor of n bytes -/
def oddLen (L n : Nat) : Bool := decide (L ≠ 0 ∧ L ≠ n)

set_option maxRecDepth 100000 in
set_option maxHeartbeats 800000 in
theorem joinTest_any (src : Option Addr) (L c lb n : Nat) (w : World) (hb : w.cell? ⟨lb, 0, none⟩ = some (.int .i64 (n : Int))) :
    Calls Tryd.prog 128 #[.slice src L c, .pointer (some ⟨lb, 0, none⟩)] w fun e w' => e = .returned (.bool (oddLen L n)) ∧ w' = w := by
  by_cases h0 : L = 0
  · have HO : Hid (oddLen L n = false) := decide_eq_false (by omega)
    have d0 : ((L : Int) != 0) = false := by rw [h0]; rfl
    clear h0
    go_enter Tryd.func128, Tryd.ntmps128
    go_wp2
    go_ret
    exact ⟨by rw [HO.out]; rfl, rfl⟩
  · have d0 : ((L : Int) != 0) = true := bne_iff_ne.2 (by omega)
    by_cases h1 : L = n
    · have HO : Hid (oddLen L n = false) := decide_eq_false (by omega)
      have d1 : ((L : Int) != (n : Int)) = false := by rw [h1]; exact bne_self_eq_false _
      clear h0 h1
      go_enter Tryd.func128, Tryd.ntmps128
      go_wp2
      go_ret
      exact ⟨by rw [HO.out]; rfl, rfl⟩
    · have HO : Hid (oddLen L n = true) := decide_eq_true ⟨h0, h1⟩
      have d1 : ((L : Int) != (n : Int)) = true := bne_iff_ne.2 (by omega)
      clear h0 h1
      go_enter Tryd.func128, Tryd.ntmps128
      go_wp2
      go_ret
      exact ⟨by rw [HO.out]; rfl, rfl⟩

set_option maxRecDepth 100000 in
set_option maxHeartbeats 1600000 in
theorem indexFunc_no (s : Sh) (lb n : Nat) (w : World) (hs : Rd w s) (h0 : 1 ≤ (s.G : Int)) (hG : (s.G : Int) ≤ 1000000000000) (hb : w.cell? ⟨lb, 0, none⟩ = some (.int .i64 (n : Int))) (hno : ∀ r, r < s.G → oddLen (s.L r) n = false) :
    Calls Tryd.prog 146 #[.slice s.g s.G s.cap, .func (.func 128) #[] #[.pointer (some ⟨lb, 0, none⟩)]] w fun e w' => e = .returned (.int .i64 (-1)) ∧ w' = w := by
  rw [hs.at0 (by omega)]
  have HN : Hid (∀ r, r < s.G → oddLen (s.L r) n = false) := hno
  clear hno
  go_enter Tryd.func146, Tryd.ntmps146
  go_wp2
  go_loopg [8] s.G (fun gk i wr => ∃ k : Nat, k ≤ s.G ∧ gk = s.G - k ∧ i = .int .i64 k ∧ wr = w)
  case atStart => exact ⟨0, Nat.zero_le _, rfl, rfl, rfl⟩
  case round =>
    obtain ⟨k, hk, rfl, rfl, rfl⟩ := hrel
    by_cases hlt : (k : Int) < (s.G : Int)
    · have c1 := hs.hd k (by omega)
      have HJ : Hid (∀ p c, Calls _ _ #[.slice p _ c, _] wr _) := fun p c => joinTest_any p (s.L k) c lb n wr hb
      rw [HN.out k (by omega)] at HJ
      go_wp2_with fail
      refine (HJ.out _ _).mono ?_
      rintro e w2 ⟨rfl, hw⟩
      obtain rfl := hw.symm
      go_wp2
      go_roundg (s.G - (k + 1))
      case rel => exact ⟨k + 1, by omega, rfl, by go_num, rfl⟩
      case measure => omega
    · go_wp2
      go_ret
      exact ⟨rfl, rfl⟩

set_option maxRecDepth 100000 in
set_option maxHeartbeats 800000 in
theorem containsFunc_no (s : Sh) (lb n : Nat) (w : World) (hs : Rd w s) (h0 : 1 ≤ (s.G : Int)) (hG : (s.G : Int) ≤ 1000000000000) (hb : w.cell? ⟨lb, 0, none⟩ = some (.int .i64 (n : Int))) (hno : ∀ r, r < s.G → oddLen (s.L r) n = false) :
    Calls Tryd.prog 127 #[.slice s.g s.G s.cap, .func (.func 128) #[] #[.pointer (some ⟨lb, 0, none⟩)]] w fun e w' => e = .returned (.bool false) ∧ w' = w := by
  have HI : Hid (Calls _ _ _ w _) := indexFunc_no s lb n w hs h0 hG hb hno
  clear hno hs
  go_enter Tryd.func127, Tryd.ntmps127
  go_wp2_with fail
  refine HI.out.mono ?_
  rintro e w2 ⟨rfl, hw⟩
  obtain rfl := hw.symm
  go_wp2
  go_ret
  exact ⟨rfl, rfl⟩

set_option maxRecDepth 100000 in
set_option maxHeartbeats 3200000 in
theorem join_yes (K M size : Nat) (s : Sh) (w : World) (hs : Rd w s) (hG : s.G = K + M) (h1 : 1 ≤ (K : Int)) (h3 : (M : Int) ≤ 255 - (K : Int)) (hsz : (size : Int) ≤ 400) (hno : ∀ r, r < K + M → oddLen (s.L r) (lenOf K size) = false)
    (hal : alikeTo s.L (K + M) (K + M) = true) (hen : K ≤ (thereTo s.L (K + M)).length) (hln : len0 s.L (K + M) = lenOf K size) (hp : Pows w) :
    Calls Tryd.prog 115 #[.agg #[.int .i64 K, .int .i64 M], .int .i64 size, .slice s.g (K + M) s.cap] w fun e w' => ∃ b W, e = .returned (.tuple #[.slice (some ⟨b, 0, none⟩) size size, .int .i64 0]) ∧ Kp (fun _ => False) w w' ∧
      El (fun r => gen K ((firstK s.L (K + M) K).getD r 0)) K K W ∧ w'.rowIs b 5 size (By (fun i => decM K s.M (firstK s.L (K + M) K) W (fun r => r) (seatK K i) (seatAt K i))) := by
  obtain ⟨wa, hwa, ka, za, q1, q2⟩ := code_alloc w K M
  have HC : Hid (Calls _ _ _ wa _) := length_yes K M size wa h1 h3 hsz
  obtain ⟨l1, l2⟩ := lenOf_bd (K := K) (size := size) (by omega) (by omega)
  have HSL : Hid (∀ i, i < size → seatAt K i < lenOf K size) := fun i hi => seatAt_lt (by omega) hi
  obtain ⟨N, hN⟩ : ∃ x, x = lenOf K size := ⟨_, rfl⟩
  rw [← hN] at HC l1 l2 HSL hno hln
  clear hN
  have dN : ((N : Int) == 0) = false := beq_eq_false_iff_ne.2 (by omega)
  have hneq' : (((K + M : Nat) : Int) != (K : Int) + (M : Int)) = false := by rw [show ((K + M : Nat) : Int) = (K : Int) + (M : Int) from by simp]; exact bne_self_eq_false _
  have hneq : ((K : Int) + (M : Int) != (K : Int) + (M : Int)) = false := bne_self_eq_false _
  have HNO : Hid (∀ r, r < K + M → oddLen (s.L r) N = false) := hno
  have HAL : Hid (alikeTo s.L (K + M) (K + M) = true ∧ K ≤ (thereTo s.L (K + M)).length ∧ len0 s.L (K + M) = N) := ⟨hal, hen, hln⟩
  have hmk := run_make_row' (P := Tryd.prog) 22 5 (.int .u8 0) 1 Tryd.underlying22 info5 rfl .i64 .i64 size (by omega) (by omega)
  clear hno hal hen hln
  go_enter Tryd.func115, Tryd.ntmps115
  go_wp2_with fail
  rw [← hwa]
  refine HC.out.mono ?_
  rintro e w1 ⟨rfl, k1⟩
  have r1 := k1.cellv q1 id
  have r2 := k1.cellv q2 id
  have kk := ka.trans k1 (fun _ _ e => e)
  obtain ⟨w2, hw2⟩ : ∃ x, x = w1.alloc (.cells #[.int .i64 (N : Int)] 3) := ⟨_, rfl⟩
  have k2 : Kp (fun _ => False) w1 w2 := by rw [hw2]; exact (Kp.refl _ _).alloc _
  have cN : w2.cell? ⟨w1.heap.size, 0, none⟩ = some (.int .i64 (N : Int)) := by rw [hw2]; go_simp
  have kk2 := kk.trans k2 (fun _ _ e => e)
  have HCf : Hid (Calls _ _ _ w2 _) := containsFunc_no s w1.heap.size N w2 (hs.keep kk2) (by omega) (by omega) cN (by rw [hG]; exact HNO.out)
  rw [hG] at HCf
  have hlw : w.heap.size ≠ w1.heap.size := by have := k1.size; omega
  have s1u := k2.cellv r1 id
  have s2u := k2.cellv r2 id
  rw [hw2] at s1u s2u
  clear hwa HC q1 q2
  go_wp2_with fail
  rw [← hw2]
  clear hw2 s1u s2u
  refine HCf.out.mono ?_
  rintro e w3 ⟨rfl, hw⟩
  obtain rfl := hw.symm
  clear HCf hneq hneq' dN
  have s1 := k2.cellv r1 id
  have s2 := k2.cellv r2 id
  have HDc : Hid (Calls _ _ _ w2 _) := decode_any K M s w2 (hs.keep kk2) hG h1 h3 (kk2.pows hp id) (by rw [HAL.out.2.2]; omega)
  go_wp2_with fail
  refine HDc.out.mono ?_
  rw [HAL.out.1]
  rintro e w4 ⟨k4, ⟨hal, rfl⟩ | ⟨_, hfew, rfl⟩ | ⟨_, _, t, B, W, rfl, _, _, hE, hMt⟩⟩
  · cases hal
  · have := HAL.out.2.1; omega
  · rw [HAL.out.2.2] at hMt
    have u1 := k4.cellv s1 id
    have u2 := k4.cellv s2 id
    have kk4 := kk2.trans k4 (fun _ _ e => e)
    have HE : Hid (El _ K K W) := hE
    obtain ⟨Z, hZ⟩ : ∃ x, x = decM K s.M (firstK s.L (K + M) K) W (fun r => r) := ⟨_, rfl⟩
    have HZ : Hid (decM K s.M (firstK s.L (K + M) K) W (fun r => r) = Z) := hZ.symm
    rw [← hZ] at hMt
    obtain ⟨w5, hw5⟩ : ∃ x, x = w4.alloc (.cells (madeCells #[.int .u8 0] size) 5) := ⟨_, rfl⟩
    have k5 : Kp (fun _ => False) w4 w5 := by rw [hw5]; exact (Kp.refl _ _).alloc _
    have r5 : w5.rowIs w4.heap.size 5 size (By (upTo (fun i => Z (seatK K i) (seatAt K i)) 0)) := by rw [hw5, upTo_zero]; exact World.rowIs_made w4 _ size 5
    have hMt5 := hMt.keep k5 id (fun _ _ => id)
    have htl := hMt.top.lt
    have hBl : Hid (∀ i, i < K + M → B i < w4.heap.size) := fun i hi => (hMt.row i hi).lt
    clear HDc hE hZ hMt HAL hs HNO
    go_wp2
    rw [← hw5]
    clear hw5 hmk
    go_loopg [46] size (fun gk i wr => ∃ r : Nat, r ≤ size ∧ gk = size - r ∧ i = .int .i64 r ∧ Kp (fun b => b = w4.heap.size) w5 wr ∧ wr.rowIs w4.heap.size 5 size (By (upTo (fun i => Z (seatK K i) (seatAt K i)) r)))
    case atStart => exact ⟨0, Nat.zero_le _, rfl, rfl, Kp.refl _ _, r5⟩
    case round =>
      obtain ⟨r, hr, rfl, rfl, hK, hT⟩ := hrel
      clear r5
      by_cases hlt : (r : Int) < (size : Int)
      · have c1 := hK.cellv (k5.cellv u1 id) (by have := World.block_lt_of_cell? _ _ u1; simp at this; show w.heap.size ≠ w4.heap.size; omega)
        have c2 := hK.cellv (k5.cellv u2 id) (by have := World.block_lt_of_cell? _ _ u1; simp at this; show w.heap.size ≠ w4.heap.size; omega)
        have HS : Hid (Calls _ _ _ wr _) := seat_any K M r wr (by omega) (by omega) (by omega)
        go_wp2_with fail
        refine HS.out.mono ?_
        rintro e w6 ⟨rfl, k6⟩
        clear HS
        have sK := seatK_lt (K := K) (by omega) r
        have sA := HSL.out r (by omega)
        have HR : Hid (∀ x, x = Z (seatK K r) (seatAt K r) → (w6.setCell ⟨w4.heap.size, r, none⟩ (.int .u8 ((x : Nat) : Int))).rowIs w4.heap.size 5 size (By (upTo (fun i => Z (seatK K i) (seatAt K i)) (r + 1)))) := fun x hx => ((k6.row hT id).set r _).congr (fun j _ => by
          simp only [By]
          rw [upTo_succ]
          split
          · rw [hx]
          · rfl)
        generalize seatK K r = SK at *
        generalize seatAt K r = SA at *
        have hM6 := (hMt5.keep hK (by omega) (fun i hi => by have := hBl.out i hi; omega)).keep k6 id (fun _ _ => id)
        have t1 := hM6.top.cell (i := SK) (by omega)
        have t2 := (hM6.row SK (by omega)).cell (i := SA) (by omega)
        have t3 := (k6.row hT id).cell (i := r) (by omega)
        have t4 := (k6.row hT id).frozen r
        simp only [By] at t2
        have t5 : (SK : Int) < (K : Int) + (M : Int) := by omega
        have t6 : (SA : Int) < (N : Int) := by omega
        have kr := hK.trans k6 (fun _ _ e => e.elim)
        clear hM6 hT c1 c2
        go_wp2
        go_roundg (size - (r + 1))
        case rel => exact ⟨r + 1, by omega, rfl, by go_num, kr.setCell (a := ⟨w4.heap.size, r, none⟩) (fun _ => rfl) _, HR.out _ rfl⟩
        case measure => omega
      · have e : r = size := by omega
        subst e
        have kf : Kp (fun _ => False) w wr := (kk4.trans k5 (fun _ _ e => e)).trans hK (fun b hb e => by have := kk4.size; omega)
        go_wp2
        go_ret2
        refine ⟨_, rfl, kf, W, HE.out, ?_⟩
        rw [HZ.out]
        exact hT.congr (fun j hj => by simp only [By, upTo]; rw [if_pos hj])
end Go.Proofs.YtmncocmeafcpfaaDoor.Mf
