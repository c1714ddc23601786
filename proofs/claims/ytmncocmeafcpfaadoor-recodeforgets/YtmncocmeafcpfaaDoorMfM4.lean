/- The walk of matrix.Mul: the product, or the error. -/
import Derived.Test.YtmncocmeafcpfaaDoorMfM2
import Derived.Test.YtmncocmeafcpfaaDoorMfXs
namespace Go.Proofs.YtmncocmeafcpfaaDoor.Mf
open Go.RowKit Go.Deep

/-- the product, when i rows are done and j terms of the next -/
def prodAt (a b : Nat → Nat → Nat) (n i j : Nat) : Nat → Nat → Nat := fun r k => if r < i then prodTo a b n r k else if r = i then prodTo a b j r k else 0
theorem prodAt_lt (a b : Nat → Nat → Nat) (n i j r k : Nat) : prodAt a b n i j r k < 256 := by
  unfold prodAt; split
  · exact prodTo_lt _ _ _ _ _
  · split
    · exact prodTo_lt _ _ _ _ _
    · omega
theorem prodAt_next (a b : Nat → Nat → Nat) (n i r k : Nat) : prodAt a b n i n r k = prodAt a b n (i + 1) 0 r k := by
  unfold prodAt
  by_cases h : r < i
  · rw [if_pos h, if_pos (by omega)]
  · rw [if_neg h]
    by_cases e : r = i
    · rw [if_pos e, if_pos (by omega)]
    · rw [if_neg e, if_neg (by omega)]
      split
      · rfl
      · rfl
theorem prodAt_start (a b : Nat → Nat → Nat) (n : Nat) : prodAt a b n 0 0 = fun _ _ => 0 := by
  funext r k; unfold prodAt
  rw [if_neg (by omega)]
  split <;> rfl
theorem prodAt_step (a b : Nat → Nat → Nat) (n i j k C : Nat) (hk : k < C) : plusRow (prodAt a b n i j i) (b j) (a i j) 0 C k = prodAt a b n i (j + 1) i k := by
  unfold plusRow prodAt
  rw [if_pos (by omega), if_neg (by omega), if_pos rfl, if_neg (by omega), if_pos rfl, Nat.sub_zero]
  rfl
theorem prodAt_other (a b : Nat → Nat → Nat) (n i j r k : Nat) (h : r ≠ i) : prodAt a b n i j r k = prodAt a b n i (j + 1) r k := by
  unfold prodAt
  rw [if_neg h, if_neg h]



set_option maxRecDepth 100000 in
set_option maxHeartbeats 1600000 in
theorem mul_ok (s t : Sh) (w : World) (hs : Rd w s) (ht : Rd w t) (ms : isM s = true) (mt : isM t = true) (hst : s.L 0 = t.G) (hp : Pows w) :
    Calls Tryd.prog 125 #[.slice s.g s.G s.cap, .slice t.g t.G t.cap] w fun e w' =>
      e = .returned (.tuple #[.slice (some ⟨w.heap.size, 0, none⟩) s.G s.G, .int .i64 0]) ∧ Kp (fun _ => False) w w' ∧ w'.heap.size = w.heap.size + 1 + s.G ∧ Mat w' w.heap.size (fun i => w.heap.size + 1 + i) s.G (t.L 0) (fun r k => prodTo s.M t.M t.G r k) := by
  obtain ⟨a1, a2, a3, a4, a5⟩ := isM_true ms
  obtain ⟨b1, b2, b3, b4, b5⟩ := isM_true mt
  have HS : Hid (Calls _ _ _ w _) := isMatrix_any s w hs
  have HT : Hid (Calls _ _ _ w _) := isMatrix_any t w ht
  rw [ms] at HS
  rw [mt] at HT
  have HG1 := hs.at0 (by omega)
  have HG2 := ht.at0 (by omega)
  rw [HG1] at HS ⊢
  rw [HG2] at HT ⊢
  have c1 := hs.hd 0 (by omega)
  have c2 := ht.hd 0 (by omega)
  simp only [Nat.add_zero] at c1 c2
  have hq : ((s.L 0 : Int) != (t.G : Int)) = false := by rw [hst]; exact bne_self_eq_false _
  have HB : Hid (∀ r, r < t.G → t.L r = t.L 0) := b5
  have HA : Hid (∀ r, r < s.G → s.L r = t.G) := fun r hr => (a5 r hr).trans hst
  have HPL := hp.lt
  clear ms mt hst HG1 HG2 a5 b5
  go_enter Tryd.func125, Tryd.ntmps125
  go_wp2_with fail
  refine HS.out.mono ?_
  rintro e w' ⟨rfl, hw⟩
  obtain rfl := hw.symm
  go_wp2_with fail
  refine HT.out.mono ?_
  rintro e w' ⟨rfl, hw⟩
  obtain rfl := hw.symm
  go_wp2_with fail
  refine (noughts_any s.G (t.L 0) _ (by omega) (by omega)).mono ?_
  rintro e w1 ⟨rfl, hK1, hz1, hM1⟩
  clear HS HT c1 c2 hq
  go_wp2
  go_loopg [37] s.G (fun gk i wr => ∃ r : Nat, r ≤ s.G ∧ gk = s.G - r ∧ i = .int .i64 r ∧ Kp (fun _ => False) w wr ∧ wr.heap.size = w.heap.size + 1 + s.G ∧ Mat wr w.heap.size (fun i => w.heap.size + 1 + i) s.G (t.L 0) (prodAt s.M t.M t.G r 0))
  case atStart => exact ⟨0, Nat.zero_le _, rfl, rfl, hK1, hz1, by rw [prodAt_start]; exact hM1⟩
  case round =>
    obtain ⟨r, hr, rfl, rfl, hK, hz, hM⟩ := hrel
    clear hK1 hz1 hM1
    by_cases hlt : (r : Int) < (s.G : Int)
    · have e1 := hK.cellv (hs.hd r (by omega)) id
      rw [HA.out r (by omega), hs.to r (by omega) 0 (by rw [HA.out r (by omega)]; omega)] at e1
      go_wp2
      go_loopg [44] t.G (fun gk i wq => ∃ j : Nat, j ≤ t.G ∧ gk = t.G - j ∧ i = .int .i64 j ∧ Kp (fun _ => False) w wq ∧ wq.heap.size = w.heap.size + 1 + s.G ∧ Mat wq w.heap.size (fun i => w.heap.size + 1 + i) s.G (t.L 0) (prodAt s.M t.M t.G r j))
      case atStart => exact ⟨0, Nat.zero_le _, rfl, rfl, hK, hz, hM⟩
      case round =>
        obtain ⟨j, hj, rfl, rfl, hK2, hz2, hM2⟩ := hrel
        clear hK hz hM e1
        by_cases hlj : (j : Int) < (t.G : Int)
        · have f2 := hK2.cellv (hs.cell r (by omega) j (by rw [HA.out r (by omega)]; omega)) id
          have f3 := hM2.top.cell (i := r) (by omega)
          have f4 := hK2.cellv (ht.hd j (by omega)) id
          have l1 := hs.byte r j
          rw [HB.out j (by omega)] at f4
          have hrow := hM2.row r (by omega)
          have hadd : Hid (∀ w' : World, w'.heap = wr.heap → Calls Tryd.prog 144 #[.slice (some ⟨w.heap.size + 1 + r, 0, none⟩) (t.L 0) (t.L 0), .slice (t.A j) (t.L 0) (t.C j), .int .u8 ((s.M r j : Nat) : Int)] w' fun e w'' =>
              e = .returned (.tuple #[]) ∧ Kp (fun b => b = w.heap.size + 1 + r) w' w'' ∧ w''.heap.size = w'.heap.size ∧ w''.rowIs (w.heap.size + 1 + r) 5 (t.L 0) (By (plusRow (prodAt s.M t.M t.G r j r) (t.M j) (s.M r j) 0 (t.L 0)))) := fun w' hw' =>
            addTimes_any (w.heap.size + 1 + r) 0 (t.L 0) (t.L 0) (t.L 0) (t.A j) (t.RB j) (t.RO j) (t.L 0) (t.C j) _ (t.M j) (s.M r j) w' (prodAt_lt _ _ _ _ _ _) (ht.byte j) (by omega) (hrow.of_block (by rw [hw'])) (fun k hk => ht.to j (by omega) k (by rw [HB.out j (by omega)]; exact hk))
              (fun k hk => by
                have := hK2.cellv (ht.cell j (by omega) k (by rw [HB.out j (by omega)]; exact hk)) id
                simpa [World.cell?, hw'] using this)
              (by have := World.block_lt_of_cell? _ _ (ht.cell j (by omega) 0 (by rw [HB.out j (by omega)]; omega)); simp at this; omega) (by omega) (by omega) ((hK2.pows hp id).heap hw') (by omega) (by omega)
          go_wp2
          go_region_with
            (go_at_call 144; refine (hadd.out _ (by rfl)).mono ?_; rintro e w2 ⟨rfl, hKa, hza, hRa⟩)
          all_goals
            go_wp2
            go_roundg (t.G - (j + 1))
            case rel => exact ⟨j + 1, by omega, rfl, by go_num, Kp.trans (S' := fun b => b = w.heap.size + 1 + r) hK2.drew hKa (fun b hb e => by omega), hza.trans hz2,
              hKa.row hM2.top (by omega), fun i hi => by
                by_cases e : i = r
                · subst e
                  exact hRa.congr (fun k hk => by simp only [By]; rw [prodAt_step _ _ _ _ _ _ _ hk])
                · exact (hKa.row (hM2.row i hi) (by omega)).congr (fun k _ => by simp only [By]; rw [prodAt_other _ _ _ _ _ _ _ e]), hM2.inj, hM2.ne, prodAt_lt _ _ _ _ _⟩
            case measure => omega
        · have e : j = t.G := by omega
          subst e
          go_wp2
          go_roundg (s.G - (r + 1))
          case rel => exact ⟨r + 1, by omega, rfl, by go_num, hK2, hz2, hM2.top, fun i hi => (hM2.row i hi).congr (fun k _ => by simp only [By]; rw [prodAt_next]), hM2.inj, hM2.ne, prodAt_lt _ _ _ _ _⟩
          case measure => omega
    · have e : r = s.G := by omega
      go_wp2
      go_ret2
      exact ⟨rfl, hK, hz, hM.top, fun i hi => (hM.row i hi).congr (fun k _ => by
        simp only [By, prodAt]
        rw [if_pos (by omega)]), hM.inj, hM.ne, prodTo_lt _ _ _⟩
end Go.Proofs.YtmncocmeafcpfaaDoor.Mf
