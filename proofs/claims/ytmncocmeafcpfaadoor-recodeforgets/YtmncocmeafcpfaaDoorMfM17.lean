/- The walks of the reference's Mul and Rows, of the errors of both sides on whatever texts, and of the verifier's Spoil. -/
import Derived.Test.YtmncocmeafcpfaaDoorMfM16
namespace Go.Proofs.YtmncocmeafcpfaaDoor.Mf
open Go.RowKit Go.Deep

/-- a row of the product, k entries done and j terms of the next -/
def rowAt (a b : Nat → Nat → Nat) (n r k j : Nat) : Nat → Nat := fun q => if q < k then prodTo a b n r q else if q = k then prodTo a b j r q else 0
theorem rowAt_lt (a b : Nat → Nat → Nat) (n r k j q : Nat) : rowAt a b n r k j q < 256 := by
  unfold rowAt; split
  · exact prodTo_lt _ _ _ _ _
  · split
    · exact prodTo_lt _ _ _ _ _
    · omega
theorem rowAt_start (a b : Nat → Nat → Nat) (n r : Nat) : rowAt a b n r 0 0 = fun _ => 0 := by
  funext q; unfold rowAt; rw [if_neg (by omega)]
  split <;> rfl
theorem rowAt_here (a b : Nat → Nat → Nat) (n r k j : Nat) : rowAt a b n r k j k = prodTo a b j r k := by unfold rowAt; rw [if_neg (by omega), if_pos rfl]
theorem rowAt_step (a b : Nat → Nat → Nat) (n r k j q : Nat) : (if q = k then prodTo a b j r k ^^^ Gf.mul (b j k) (a r j) else rowAt a b n r k j q) = rowAt a b n r k (j + 1) q := by
  unfold rowAt
  by_cases e : q = k
  · subst e; rw [if_pos rfl, if_neg (by omega), if_pos rfl]; rfl
  · rw [if_neg e, if_neg e, if_neg e]
theorem rowAt_next (a b : Nat → Nat → Nat) (n r k q : Nat) : rowAt a b n r k n q = rowAt a b n r (k + 1) 0 q := by
  unfold rowAt
  by_cases h : q < k
  · rw [if_pos h, if_pos (by omega)]
  · rw [if_neg h]
    by_cases e : q = k
    · rw [if_pos e, if_pos (by omega)]
    · rw [if_neg e, if_neg (by omega)]
      split
      · rfl
      · rfl

set_option maxRecDepth 100000 in
set_option maxHeartbeats 3200000 in
theorem refMul_ok (s t : Sh) (w : World) (hs : Rd w s) (ht : Rd w t) (ms : isM s = true) (mt : isM t = true) (hst : s.L 0 = t.G) :
    Calls Tryd.prog 88 #[.slice s.g s.G s.cap, .slice t.g t.G t.cap] w fun e w' => ∃ v B, e = .returned (.tuple #[v, .int .i64 0]) ∧ Gath w w' v (t.L 0) s.G B (fun r k => prodTo s.M t.M t.G r k) := by
  obtain ⟨a1, a2, a3, a4, a5⟩ := isM_true ms
  obtain ⟨b1, b2, b3, b4, b5⟩ := isM_true mt
  have HS : Hid (Calls _ _ _ w _) := refIs_any s w hs
  have HT : Hid (Calls _ _ _ w _) := refIs_any t w ht
  rw [ms] at HS
  rw [mt] at HT
  have HG1 := hs.at0 (by omega)
  have HG2 := ht.at0 (by omega)
  rw [HG1] at HS ⊢
  rw [HG2] at HT ⊢
  have c1 := hs.hd 0 (by omega)
  have c2 := ht.hd 0 (by omega)
  simp only [Nat.add_zero] at c1 c2
  have hq : ((s.L 0 : Int) != (t.G : Int)) = false := by rw [hst]; exact bne_self_eq_false _
  have HB : Hid (∀ r, r < t.G → t.L r = t.L 0) := b5
  have HA : Hid (∀ r, r < s.G → s.L r = t.G) := fun r hr => (a5 r hr).trans hst
  obtain ⟨ti, hi0, hz0, hz1, hz2⟩ := info_parts info42
  have hmk := run_make_row' (P := Tryd.prog) 22 5 (.int .u8 0) 1 Tryd.underlying22 info5 rfl .i64 .i64 (t.L 0) (by omega) (by omega)
  clear ms mt hst HG1 HG2 a5 b5
  go_enter Tryd.func88, Tryd.ntmps88
  go_wp2_with fail
  refine HS.out.mono ?_
  rintro e w' ⟨rfl, hw⟩
  obtain rfl := hw.symm
  go_wp2_with fail
  refine HT.out.mono ?_
  rintro e w' ⟨rfl, hw⟩
  obtain rfl := hw.symm
  go_wp2
  clear HS HT c1 hq
  go_loopg [6, 32] s.G (fun gk v i wr => ∃ (r : Nat) (B : Nat → Nat), r ≤ s.G ∧ gk = s.G - r ∧ i = .int .i64 r ∧ Gath w wr v (t.L 0) r B (fun r k => prodTo s.M t.M t.G r k))
  case atStart => exact ⟨0, _, Nat.zero_le _, rfl, rfl, Gath.start w _ _⟩
  case round =>
    obtain ⟨r, B, hr, rfl, rfl, hGa⟩ := hrel
    obtain ⟨wr0, rfl⟩ : ∃ x, x = wr := ⟨_, rfl⟩
    by_cases hlt : (r : Int) < (s.G : Int)
    · have e1 := hGa.kept.cellv (hs.hd r (by omega)) id
      rw [HA.out r (by omega), hs.to r (by omega) 0 (by rw [HA.out r (by omega)]; omega)] at e1
      have e2 := hGa.kept.cellv c2 id
      have hwr := hGa.kept.size
      have hnew := World.rowIs_made wr0 (.int .u8 0) (t.L 0) 5
      go_wp2
      go_loopg [43] (t.L 0) (fun gk i wq => ∃ k : Nat, k ≤ t.L 0 ∧ gk = t.L 0 - k ∧ i = .int .i64 k ∧ Kp (fun _ => False) wr0 wq ∧ wq.heap.size = wr0.heap.size + 1 ∧ wq.rowIs wr0.heap.size 5 (t.L 0) (By (rowAt s.M t.M t.G r k 0)))
      case atStart => exact ⟨0, Nat.zero_le _, rfl, rfl, (Kp.refl _ _).alloc _, by simp, by rw [rowAt_start]; exact hnew⟩
      case round =>
        obtain ⟨k, hk, rfl, rfl, hK, hz, hR⟩ := hrel
        clear hnew e1 e2
        by_cases hlk : (k : Int) < (t.L 0 : Int)
        · go_wp2
          go_loopg [48] t.G (fun gk i wz => ∃ j : Nat, j ≤ t.G ∧ gk = t.G - j ∧ i = .int .i64 j ∧ Kp (fun _ => False) wr0 wz ∧ wz.heap.size = wr0.heap.size + 1 ∧ wz.rowIs wr0.heap.size 5 (t.L 0) (By (rowAt s.M t.M t.G r k j)))
          case atStart => exact ⟨0, Nat.zero_le _, rfl, rfl, hK, hz, hR⟩
          case round =>
            obtain ⟨j, hj, rfl, rfl, hKj, hzj, hRj⟩ := hrel
            clear hK hz hR
            by_cases hlj : (j : Int) < (t.G : Int)
            · have f1 := hKj.cellv (hGa.kept.cellv (hs.cell r (by omega) j (by rw [HA.out r (by omega)]; omega)) id) id
              have f2 := hKj.cellv (hGa.kept.cellv (ht.hd j (by omega)) id) id
              rw [HB.out j (by omega), ht.to j (by omega) 0 (by rw [HB.out j (by omega)]; omega)] at f2
              have f3 := hKj.cellv (hGa.kept.cellv (ht.cell j (by omega) k (by rw [HB.out j (by omega)]; omega)) id) id
              have f4 := hRj.cell (i := k) (by omega)
              have f5 := hRj.frozen k
              simp only [By] at f4
              rw [rowAt_here] at f4
              have l1 := hs.byte r j
              have l2 := ht.byte j k
              have l3 := prodTo_lt s.M t.M j r k
              have l4 := Gf.mul_lt (s.M r j) (t.M j k)
              have hx := u8_xor_cast (prodTo s.M t.M j r k) (Gf.mul (s.M r j) (t.M j k)) (by omega) (by omega)
              have HR2 : Hid ((wr.setCell ⟨wr0.heap.size, k, none⟩ (.int .u8 ((prodTo s.M t.M j r k ^^^ Gf.mul (s.M r j) (t.M j k) : Nat) : Int))).rowIs wr0.heap.size 5 (t.L 0) (By (rowAt s.M t.M t.G r k (j + 1)))) := (hRj.set k _).congr (fun q _ => by
                simp only [By]
                rw [← rowAt_step, Gf.mul_comm (t.M j k) (s.M r j) l2 l1]
                split <;> rfl)
              go_wp2
              refine wp_region_still_tail 16 mixed (by kernel_rfl) ?_
              simp only [List.take_succ_cons, List.take_zero, List.drop_succ_cons, List.drop_zero]
              repeat still_step
              still_call (rmul_nat (s.M r j) (t.M j k) _ (by omega) (by omega))
              repeat still_step
              refine wpStill_nil ?_
              go_wp2
              go_roundg (t.G - (j + 1))
              case rel => exact ⟨j + 1, by omega, rfl, by go_num, (hKj.setCell (a := ⟨wr0.heap.size, k, none⟩) (fun h => absurd h (Nat.lt_irrefl _)) _).drew, by simpa using hzj, HR2.out⟩
              case measure => omega
            · have e : j = t.G := by omega
              have HR2 : Hid (wr.rowIs wr0.heap.size 5 (t.L 0) (By (rowAt s.M t.M t.G r (k + 1) 0))) := hRj.congr (fun q _ => by simp only [By]; rw [e, rowAt_next])
              clear e hRj
              go_wp2
              go_roundg (t.L 0 - (k + 1))
              case rel => exact ⟨k + 1, by omega, rfl, by go_num, hKj, hzj, HR2.out⟩
              case measure => omega
        · have e : k = t.L 0 := by omega
          have hrowk : wr.rowIs wr0.heap.size 5 (t.L 0) (By (fun q => prodTo s.M t.M t.G r q)) := hR.congr (fun q hq => by simp only [By, rowAt]; rw [if_pos (by omega)])
          have HZ : Hid (wr.heap.size = wr0.heap.size + 1) := hz
          clear hz e hR
          go_wp2_with (at_builtin; go_must (refine wpList_append_own_at _ rfl _ _ 27 rfl w.heap.size 22 ti (.slice none 0 0) 1 24 Tryd.underlying27 hi0 hz0 hz1 hz2 rfl (by decide) _ _ _ rfl ((ownsRow_keep hGa.own hK).alloc _) ⟨wr.heap.size, 0, none⟩ 1 1 [.slice (some ⟨wr0.heap.size, 0, none⟩) (t.L 0) (t.L 0)] rfl rfl (cell_one_new _ _ _) (fun x hx => by simp at hx; subst hx; rfl) (by unfold maxLen; omega) (by omega) (by simp; have := HZ.out; omega) ?_); intro v' w3 hown' hgrow3 hnil3 hblk3)
          go_roundg (s.G - (r + 1))
          case rel => exact ⟨r + 1, _, by omega, rfl, by go_num, hGa.step hK hrowk hown' hgrow3 hblk3⟩
          case measure => omega
    · have e : r = s.G := by omega
      clear hs ht HA HB c2
      go_wp2
      go_ret2
      subst e
      exact ⟨_, rfl, B, hGa⟩
end Go.Proofs.YtmncocmeafcpfaaDoor.Mf
