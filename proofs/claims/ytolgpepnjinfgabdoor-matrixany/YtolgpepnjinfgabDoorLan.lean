/- The walk of the law MatrixAny: any rows of a code's matrix, as many as its data, have an inverse. -/
import Derived.Test.YtolgpepnjinfgabDoorM11
import Derived.Test.YtolgpepnjinfgabDoorM12
import Derived.Maps.AppendAt
namespace Go.Proofs.YtolgpepnjinfgabDoor
open Go.RowKit Go.Deep

def kk12 (n : Int) : Nat := 1 + ((n % 18446744073709551616) % 12).toNat
def mm6 (n : Int) : Nat := ((n % 18446744073709551616) % 6).toNat
theorem kk12_bd (n : Int) : 1 ≤ kk12 n ∧ kk12 n ≤ 12 := by unfold kk12; omega
theorem mm6_bd (n : Int) : mm6 n ≤ 5 := by unfold mm6; omega
theorem u64_wrap (n : Int) : IntKind.u64.wrap n = n % 18446744073709551616 := by simp [IntKind.wrap, IntKind.bits, IntKind.signed]
theorem kk12_eq (n : Int) : wrap64 (1 + wrap64 ((IntKind.u64.wrap n).tmod 12)) = (kk12 n : Int) := by
  rw [u64_wrap, Int.tmod_eq_emod_of_nonneg (by omega)]
  unfold wrap64 kk12; omega
theorem mm6_eq (n : Int) : wrap64 ((IntKind.u64.wrap n).tmod 6) = (mm6 n : Int) := by
  rw [u64_wrap, Int.tmod_eq_emod_of_nonneg (by omega)]
  unfold wrap64 mm6; omega

theorem info3 : (Tryd.prog.info? 3).map (fun i => (i.zero, i.size, i.bytes)) = some (some (.int .i64 0), 1, 8) := by kernel_rfl
/-- numbers, as values -/
def nums (l : Nat → Nat) (m : Nat) : List Value := (List.range m).map fun j => .int .i64 ((l j : Nat) : Int)
theorem nums_succ (l : Nat → Nat) (m i : Nat) : nums (fun j => if j = m then i else l j) (m + 1) = nums l m ++ [.int .i64 ((i : Nat) : Int)] := by
  unfold nums
  rw [List.range_succ, List.map_append]
  congr 1
  · refine List.map_congr_left (fun j hj => ?_)
    have hj' := List.mem_range.1 hj
    dsimp only
    rw [if_neg (by omega)]
  · simp
theorem nums_at (l : Nat → Nat) {m j : Nat} (h : j < m) : (nums l m)[j]? = some (.int .i64 ((l j : Nat) : Int)) := by
  unfold nums; rw [List.getElem?_map, List.getElem?_range h]; rfl
theorem sel_value {w : World} {base m : Nat} {v : Value} {xs : List Value} (h : w.ownsRow base 3 1 v (m + 1) xs) : ∃ ao cv, v = .slice ao (m + 1) cv := by
  rcases h.2 with ⟨_, h0⟩ | ⟨g, cap, cur, rfl, _⟩
  · omega
  · exact ⟨_, _, rfl⟩
theorem sel_step {l : Nat → Nat} {m i : Nat} (h : ∀ j, j < m → l j < i ∧ ∀ j', j < j' → j' < m → l j < l j') : ∀ j, j < m + 1 → (if j = m then i else l j) < i + 1 ∧ ∀ j', j < j' → j' < m + 1 → (if j = m then i else l j) < (if j' = m then i else l j') := by
  intro j hj
  by_cases e : j = m
  · rw [if_pos e]
    exact ⟨by omega, fun j' h1 h2 => by omega⟩
  · rw [if_neg e]
    have := h j (by omega)
    refine ⟨by omega, fun j' h1 h2 => ?_⟩
    by_cases e' : j' = m
    · rw [if_pos e']; exact this.1
    · rw [if_neg e']; exact this.2 j' h1 (by omega)
theorem sel_read {w : World} {base m : Nat} {v : Value} {l : Nat → Nat} (hm : 0 < m) (h : w.ownsRow base 3 1 v m (nums l m)) : Ls w v m l := by
  rcases h.2 with ⟨_, h0⟩ | ⟨g, cap, cur, rfl, hb, hh, hn, _, hcs, htk⟩
  · omega
  · refine ⟨some ⟨g, 0, none⟩, g, 0, cap, rfl, fun _ _ => rfl, fun i hi => ?_⟩
    have h1 : (cur.toList.take (m * 1))[i]? = some (.int .i64 ((l i : Nat) : Int)) := by rw [htk]; exact nums_at l hi
    rw [List.getElem?_take_of_lt (by omega), Array.getElem?_toList] at h1
    simp [World.cell?, hh, h1]
/-- elimination of any K rows of a code's matrix does not fail -/
theorem any_no_fail {K i : Nat} {l : Nat → Nat} (hK : K ≤ 256) (hl : ∀ j, j < K → l j < 256 ∧ ∀ j', j < j' → j' < K → l j < l j') {W : Nat → Nat → Nat} (h : El (fun r => gen K (l r)) K i W) (hi : i < K) : ¬ NoPiv W K i := fun hn => by
  obtain ⟨v, hv, h1, h0⟩ := h.kernel (fun _ _ => gen_lt _ _ _) hi hn
  have := any_kernel K l (fun j hj => (hl j hj).1) hK (fun j j' h1 h2 => (hl j (by omega)).2 j' h1 h2) v hv h0 i hi
  omega

set_option maxRecDepth 100000 in
set_option maxHeartbeats 3200000 in
theorem any_walk (k m mask : Int) (w : World) (hp : Pows w) :
    Calls Tryd.prog 8 #[.int .i64 k, .int .i64 m, .int .u64 mask] w fun e w' => e = .returned (.bool true) ∧ Kp (fun _ => False) w w' := by
  have HK : Hid (_ = _) := kk12_eq k
  have HM : Hid (_ = _) := mm6_eq m
  obtain ⟨b1, b2⟩ := kk12_bd k
  have b3 := mm6_bd m
  go_enter Tryd.func8, Tryd.ntmps8
  go_wp2_with fail
  rw [HK.out, HM.out]
  clear HK HM
  generalize kk12 k = K at *
  generalize mm6 m = M at *
  obtain ⟨wa, hwa⟩ : ∃ x, x = w.alloc (.cells #[.int .i64 (K : Int), .int .i64 (M : Int)] 38) := ⟨_, rfl⟩
  have q1 : wa.cell? ⟨w.heap.size, 0, none⟩ = some (.int .i64 (K : Int)) := by rw [hwa]; go_simp
  have q2 : wa.cell? ⟨w.heap.size, 1, none⟩ = some (.int .i64 (M : Int)) := by rw [hwa]; go_simp
  have k0 : Kp (fun _ => False) w wa := by rw [hwa]; exact (Kp.refl _ _).alloc _
  rw [← hwa]
  refine (generator_yes K M wa (by omega) (by omega) (k0.pows hp id)).mono ?_
  rintro e w1 ⟨t, B, rfl, k1, hMg⟩
  have G := hMg.mx
  have r1 := k1.cellv q1 id
  have r2 := k1.cellv q2 id
  have kk := k0.trans k1 (fun _ _ e => e)
  have hp1 := kk.pows hp id
  obtain ⟨ti, hi0, hz0, hz1, hz2⟩ := info_parts info3
  have hneq : (((K + M : Nat) : Int) != (K : Int) + (M : Int)) = false := by rw [show ((K + M : Nat) : Int) = (K : Int) + (M : Int) from by simp]; exact bne_self_eq_false _
  have hneq' : ((K : Int) + (M : Int) != (K : Int) + (M : Int)) = false := bne_self_eq_false _
  clear q1 q2 k0 hwa hMg k1
  go_wp2
  clear hneq hneq'
  go_loopg [10, 46] (K + M) (fun gk v x wr => ∃ (i mm : Nat) (l : Nat → Nat), i ≤ K + M ∧ mm ≤ K ∧ i ≤ mm + M ∧ gk = K + M - i ∧ x = .int .i64 i ∧ Kp (fun _ => False) w1 wr ∧ (∃ ao cv, v = .slice ao mm cv) ∧ wr.ownsRow w1.heap.size 3 1 v mm (nums l mm) ∧ (∀ j, j < mm → l j < i ∧ ∀ j', j < j' → j' < mm → l j < l j'))
  case atStart => exact ⟨0, 0, fun _ => 0, Nat.zero_le _, Nat.zero_le _, Nat.zero_le _, rfl, rfl, Kp.refl _ _, ⟨none, 0, rfl⟩, World.ownsRow_nil _ _ _ _, fun j hj => absurd hj (Nat.not_lt_zero _)⟩
  case round =>
    obtain ⟨i, mm, l, hi1, hi2, hi3, rfl, rfl, hK, ⟨ao, cv, rfl⟩, hO, hL⟩ := hrel
    have HL : Hid (∀ j, j < mm → l j < i ∧ ∀ j', j < j' → j' < mm → l j < l j') := hL
    clear hL
    have s1 := hK.cellv r1 id
    have s2 := hK.cellv r2 id
    by_cases hlt : (i : Int) < (K : Int) + (M : Int)
    · by_cases hmK : (mm : Int) < (K : Int)
      · have d1 : decide ((mm : Int) < (K : Int)) = true := by simp; omega
        by_cases hbit : (bits .and .u64 (mask / 2 ^ i) 1 == 1) = true
        · go_wp2_with (at_builtin; go_must (refine wpList_append_own_at _ rfl _ _ 26 rfl w1.heap.size 3 ti (.int .i64 0) 1 8 Tryd.underlying26 hi0 hz0 hz1 hz2 rfl (by decide) _ _ _ rfl (hO.alloc _) ⟨wr.heap.size, 0, none⟩ 1 1 [.int .i64 ((i : Nat) : Int)] rfl rfl (cell_one_new _ _ _) (fun x hx => by simp at hx; subst hx; rfl) (by unfold maxLen; omega) (by omega) (by simp; have := hK.size; omega) ?_); intro v' w3 hown' hgrow3 hnil3 hblk3)
          go_roundg (K + M - (i + 1))
          case rel => exact ⟨i + 1, mm + 1, _, by omega, by omega, by omega, rfl, by go_num, Kp.trans (hK.alloc _) (grownBy_kp hgrow3) (fun b hb e => by have := ownBlock_lt hO e; omega), sel_value hown', by rw [nums_succ]; exact hown', sel_step HL.out⟩
          case measure => omega
        · have hbit' : (bits .and .u64 (mask / 2 ^ i) 1 == 1) = false := by simpa using hbit
          clear hbit
          by_cases hle : (K : Int) + (M : Int) - (i : Int) ≤ (K : Int) - (mm : Int)
          · have d3 : decide ((K : Int) + (M : Int) - (i : Int) ≤ (K : Int) - (mm : Int)) = true := by simp; omega
            go_wp2_with (at_builtin; go_must (refine wpList_append_own_at _ rfl _ _ 26 rfl w1.heap.size 3 ti (.int .i64 0) 1 8 Tryd.underlying26 hi0 hz0 hz1 hz2 rfl (by decide) _ _ _ rfl (hO.alloc _) ⟨wr.heap.size, 0, none⟩ 1 1 [.int .i64 ((i : Nat) : Int)] rfl rfl (cell_one_new _ _ _) (fun x hx => by simp at hx; subst hx; rfl) (by unfold maxLen; omega) (by omega) (by simp; have := hK.size; omega) ?_); intro v' w3 hown' hgrow3 hnil3 hblk3)
            go_roundg (K + M - (i + 1))
            case rel => exact ⟨i + 1, mm + 1, _, by omega, by omega, by omega, rfl, by go_num, Kp.trans (hK.alloc _) (grownBy_kp hgrow3) (fun b hb e => by have := ownBlock_lt hO e; omega), sel_value hown', by rw [nums_succ]; exact hown', sel_step HL.out⟩
            case measure => omega
          · have d3 : decide ((K : Int) + (M : Int) - (i : Int) ≤ (K : Int) - (mm : Int)) = false := by simp; omega
            go_wp2
            go_roundg (K + M - (i + 1))
            case rel => exact ⟨i + 1, mm, l, by omega, by omega, by omega, rfl, by go_num, hK, ⟨ao, cv, rfl⟩, hO, fun j hj => ⟨by have := (HL.out j hj).1; omega, (HL.out j hj).2⟩⟩
            case measure => omega
      · have d1 : decide ((mm : Int) < (K : Int)) = false := by simp; omega
        go_wp2
        go_roundg (K + M - (i + 1))
        case rel => exact ⟨i + 1, mm, l, by omega, by omega, by omega, rfl, by go_num, hK, ⟨ao, cv, rfl⟩, hO, fun j hj => ⟨by have := (HL.out j hj).1; omega, (HL.out j hj).2⟩⟩
        case measure => omega
    · have e : mm = K := by omega
      subst e
      have hLs := sel_read (by omega) hO
      have HN : Hid (∀ {j : Nat} {W : Nat → Nat → Nat}, El (fun r => gen mm (l r)) mm j W → j < mm → ¬ NoPiv W mm j) := fun h hj => any_no_fail (by omega) (fun j hj => ⟨by have := (HL.out j hj).1; omega, (HL.out j hj).2⟩) h hj
      have G2 := G.keep hK
      have hpr := hK.pows hp1 id
      go_wp2_with fail
      refine (rowsX _ _ (mm + M) mm mm (gen mm) l wr G2 hLs (fun j hj => by have := (HL.out j hj).1; omega) (by omega) (by omega) (by omega) (by omega) (by omega) (by omega)).mono ?_
      rintro e w4 ⟨vr, rfl, k4, Rm⟩
      have hp4 := k4.pows hpr id
      go_wp2_with fail
      refine (invertX _ mm _ w4 Rm (by omega) (by omega) hp4).mono ?_
      rintro e w5 ⟨k5, ⟨rfl, j, W, hj, hE, hno⟩ | ⟨t', W, rfl, _, _⟩⟩
      · exact absurd hno (HN.out hE hj)
      · go_wp2
        go_ret
        exact ⟨rfl, ((kk.trans hK (fun _ _ e => e)).trans k4 (fun _ _ e => e)).trans k5 (fun _ _ e => e)⟩
end Go.Proofs.YtolgpepnjinfgabDoor
