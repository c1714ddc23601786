/- The walks of matrix.isCode and matrix.Generator. -/
import Derived.Test.YtmncocmeafcpfaaDoorMfM9
import Derived.Test.YtmncocmeafcpfaaDoorMfCav
namespace Go.Proofs.YtmncocmeafcpfaaDoor.Mf
open Go.RowKit Go.Deep

set_option maxRecDepth 100000 in
set_option maxHeartbeats 800000 in
theorem isCode_yes (K M : Int) (w : World) (h1 : 1 ≤ K) (h2 : 0 ≤ M) (h3 : M ≤ 255 - K) :
    Calls Tryd.prog 134 #[.agg #[.int .i64 K, .int .i64 M]] w fun e w' => e = .returned (.bool true) ∧ Kp (fun _ => False) w w' := by
  have d1 : decide (1 ≤ K) = true := by simp; omega
  have d2 : decide (0 ≤ M) = true := by simp; omega
  have d3 : decide (M ≤ 255 - K) = true := by simp; omega
  go_enter Tryd.func134, Tryd.ntmps134
  go_wp2
  go_ret
  exact ⟨rfl, (Kp.refl _ _).alloc _⟩

/-- the rows of the code's matrix, when those up to r are filled, and c of the next -/
def genAt (K r c : Nat) : Nat → Nat → Nat := fun i j => if i < K then ones K i j else if i < r then Gf.inv (i ^^^ j) else if i = r ∧ j < c then Gf.inv (i ^^^ j) else 0
theorem genAt_lt (K r c i j : Nat) : genAt K r c i j < 256 := by
  unfold genAt; split
  · exact ones_lt _ _ _
  · split
    · exact Gf.mul_lt _ _
    · split
      · exact Gf.mul_lt _ _
      · omega

theorem genAt_start (K i j : Nat) : ones K i j = genAt K K 0 i j := by
  unfold genAt
  by_cases h : i < K
  · rw [if_pos h]
  · rw [if_neg h, if_neg h, if_neg (by omega)]
    unfold ones
    rw [if_neg (by omega)]
theorem genAt_next (K r i j : Nat) (hj : j < K) : genAt K r K i j = genAt K (r + 1) 0 i j := by
  unfold genAt
  by_cases h : i < K
  · rw [if_pos h, if_pos h]
  · rw [if_neg h, if_neg h]
    by_cases h2 : i < r
    · rw [if_pos h2, if_pos (by omega)]
    · rw [if_neg h2]
      by_cases e : i = r
      · rw [if_pos ⟨e, hj⟩, if_pos (by omega)]
      · rw [if_neg (by omega), if_neg (by omega), if_neg (by omega)]
theorem genAt_here (K r c j : Nat) (h : K ≤ r) : genAt K r (c + 1) r j = if j = c then Gf.inv (r ^^^ c) else genAt K r c r j := by
  have h1 : ¬ r < K := by omega
  have h2 : ¬ r < r := by omega
  unfold genAt
  simp only [if_neg h1, if_neg h2, true_and]
  by_cases e : j = c
  · subst e; rw [if_pos (by omega), if_pos rfl]
  · rw [if_neg e]
    by_cases h2 : j < c
    · rw [if_pos (by omega), if_pos h2]
    · rw [if_neg (by omega), if_neg h2]
theorem genAt_other (K r c i j : Nat) (h : i ≠ r) : genAt K r c i j = genAt K r (c + 1) i j := by
  unfold genAt
  rw [if_neg (c := i = r ∧ j < c) (by omega), if_neg (c := i = r ∧ j < c + 1) (by omega)]
theorem genAt_end (K M i j : Nat) (hi : i < K + M) : genAt K (K + M) 0 i j = gen K i j := by
  unfold genAt gen
  by_cases h : i < K
  · rw [if_pos h, if_pos h]
  · rw [if_neg h, if_neg h, if_pos hi]

set_option maxRecDepth 100000 in
set_option maxHeartbeats 3200000 in
theorem generator_yes (K M : Nat) (w : World) (h1 : 1 ≤ (K : Int)) (h3 : (M : Int) ≤ 255 - (K : Int)) (hp : Pows w) :
    Calls Tryd.prog 122 #[.agg #[.int .i64 K, .int .i64 M]] w fun e w' =>
      ∃ t B, e = .returned (.tuple #[.slice (some ⟨t, 0, none⟩) (K + M) (K + M), .int .i64 0]) ∧ Kp (fun _ => False) w w' ∧ Mat w' t B (K + M) K (gen K) := by
  have hgl := hp.lt
  go_enter Tryd.func122, Tryd.ntmps122
  go_wp2_with fail
  refine (isCode_yes K M _ h1 (by omega) h3).mono ?_
  rintro e w1 ⟨rfl, k1⟩
  obtain ⟨wa, hwa⟩ : ∃ x, x = w.alloc (.cells #[.int .i64 (K : Int), .int .i64 (M : Int)] 26) := ⟨_, rfl⟩
  have q1 : wa.cell? ⟨w.heap.size, 0, none⟩ = some (.int .i64 (K : Int)) := by rw [hwa]; go_simp
  have q2 : wa.cell? ⟨w.heap.size, 1, none⟩ = some (.int .i64 (M : Int)) := by rw [hwa]; go_simp
  have k0 : Kp (fun _ => False) w wa := by rw [hwa]; exact (Kp.refl _ _).alloc _
  rw [← hwa] at k1
  have r1 := k1.cellv q1 id
  have r2 := k1.cellv q2 id
  have kk := k0.trans k1 (fun _ _ e => e)
  have hp1 := kk.pows hp id
  have hsz := kk.size
  clear q1 q2 k0 hwa
  go_wp2_with fail
  rw [show (K : Int) + (M : Int) = ((K + M : Nat) : Int) from by simp]
  refine (onesAbove_any (K + M) K w1 (by omega) (by omega)).mono ?_
  rintro e w2 ⟨rfl, k2, hz2, hM2⟩
  have s1 := k2.cellv r1 id
  have s2 := k2.cellv r2 id
  go_wp2
  go_loopg [5] M (fun gk x wr => ∃ i : Nat, K ≤ i ∧ i ≤ K + M ∧ gk = K + M - i ∧ x = .int .i64 i ∧ Kp (fun _ => False) w1 wr ∧ Mat wr w1.heap.size (fun i => w1.heap.size + 1 + i) (K + M) K (genAt K i 0))
  case atStart => exact ⟨K, Nat.le_refl _, by omega, by omega, rfl, k2, hM2.top, fun i hi => (hM2.row i hi).congr (fun j _ => by simp only [By]; rw [genAt_start]), hM2.inj, hM2.ne, genAt_lt _ _ _⟩
  case round =>
    obtain ⟨i, hi1, hi2, rfl, rfl, hK, hM⟩ := hrel
    clear k2 hz2 hM2 s1 s2
    have s1 := hK.cellv r1 id
    have s2 := hK.cellv r2 id
    by_cases hlt : (i : Int) < (K : Int) + (M : Int)
    · go_wp2
      go_loopg [31] K (fun gk x wq => ∃ c : Nat, c ≤ K ∧ gk = K - c ∧ x = .int .i64 c ∧ Kp (fun _ => False) w1 wq ∧ Mat wq w1.heap.size (fun i => w1.heap.size + 1 + i) (K + M) K (genAt K i c))
      case atStart => exact ⟨0, Nat.zero_le _, rfl, rfl, hK, hM⟩
      case round =>
        obtain ⟨c, hc, rfl, rfl, hK2, hM2⟩ := hrel
        clear hK hM s1 s2
        by_cases hlc : (c : Int) < (K : Int)
        · have e1 := hM2.top.cell (i := i) (by omega)
          have e2 := (hM2.row i (by omega)).cell (i := c) (by omega)
          have e3 := (hM2.row i (by omega)).frozen c
          have hb1 : (i : Int) < 256 := by omega
          have hb2 : (c : Int) < 256 := by omega
          have hx := xor8 (show i < 256 by omega) (show c < 256 by omega)
          have hx0 : i ^^^ c ≠ 0 := xor_ne (by omega)
          have HX : Hid (i ^^^ c ≠ 0) := hx0
          have hpr := hK2.pows hp1 id
          have hw1 : IntKind.u8.wrap (i : Int) = (i : Int) := by rw [IntKind.wrap_u8']; omega
          have hw2 : IntKind.u8.wrap (c : Int) = (c : Int) := by rw [IntKind.wrap_u8']; omega
          simp only [By] at e2
          clear hx0
          go_wp2
          go_region_with
            (first
              | (go_at_call 137; refine (add_nat i c _ hb1 hb2).mono ?_; rintro e w' ⟨rfl, rfl⟩)
              | (go_at_call 136; refine (inv_some (i ^^^ c) _ hx HX.out (by exact hpr.heap rfl)).mono ?_; rintro e w' ⟨rfl, m, rfl⟩))
          all_goals
            go_wp2
            go_roundg (K - (c + 1))
            case rel => exact ⟨c + 1, by omega, rfl, by go_num, (hK2.drewN _).setCell (fun h => absurd h (by show ¬ w1.heap.size + 1 + i < w1.heap.size; omega)) _,
              (rowIs_drewN hM2.top _).setOther (by show w1.heap.size ≠ w1.heap.size + 1 + i; omega) _, fun r hr => by
                by_cases e : r = i
                · subst e
                  exact ((rowIs_drewN (hM2.row r hr) _).set c _).congr (fun j _ => by
                    simp only [By]
                    rw [genAt_here _ _ _ _ hi1]
                    split <;> rfl)
                · exact ((rowIs_drewN (hM2.row r hr) _).setOther (by show w1.heap.size + 1 + r ≠ w1.heap.size + 1 + i; omega) _).congr (fun j _ => by simp only [By]; rw [genAt_other _ _ _ _ _ e]), hM2.inj, hM2.ne, genAt_lt _ _ _⟩
            case measure => omega
        · have e : c = K := by omega
          subst e
          have s1 := hK2.cellv r1 id
          have s2 := hK2.cellv r2 id
          go_wp2
          go_roundg (c + M - (i + 1))
          case rel => exact ⟨i + 1, by omega, by omega, rfl, by go_num, hK2, hM2.top, fun r hr => (hM2.row r hr).congr (fun j hj => by simp only [By]; rw [genAt_next _ _ _ _ hj]), hM2.inj, hM2.ne, genAt_lt _ _ _⟩
          case measure => omega
    · have e : i = K + M := by omega
      subst e
      go_wp2
      go_ret2
      exact ⟨_, rfl, kk.trans hK (fun _ _ e => e), _, hM.top, fun r hr => (hM.row r hr).congr (fun j _ => by simp only [By]; rw [genAt_end _ _ _ _ hr]), hM.inj, hM.ne, gen_lt K⟩
end Go.Proofs.YtmncocmeafcpfaaDoor.Mf
