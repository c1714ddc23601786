/- The walks of the reference's Identity and Generator, of the errors of both sides, and of the law's awake. -/
import Derived.Test.YtmncocmeafcpfaaDoorMfM11
import Derived.Test.YtmncocmeafcpfaaDoorMfM12
import Derived.Test.YtmncocmeafcpfaaDoorMfGr
namespace Go.Proofs.YtmncocmeafcpfaaDoor.Mf
open Go.RowKit Go.Deep

theorem made_set (w : World) (n r : Nat) (g : Nat → Value) (h : ∀ j, j < n → (if j = r then Value.int .u8 1 else .int .u8 0) = g j) :
    (w.alloc (.cells ((madeCells #[.int .u8 0] n).setIfInBounds r (.int .u8 1)) 5)).rowIs w.heap.size 5 n g := by
  obtain ⟨c, hc, hcs, hcv⟩ := World.rowIs_made w (.int .u8 0) n 5
  have hc' : (w.heap.push (.cells (madeCells #[.int .u8 0] n) 5 (0, 0)))[w.heap.size]? = some (.cells c 5 (0, 0)) := hc
  rw [Array.getElem?_push, if_pos rfl] at hc'
  have e : madeCells #[.int .u8 0] n = c := by simpa using hc'
  rw [e]
  refine ⟨c.setIfInBounds r (.int .u8 1), by show (w.heap.push _)[w.heap.size]? = _; simp, by simpa using hcs, fun i hi => ?_⟩
  rw [Array.getElem?_setIfInBounds, ← h i hi]
  by_cases e1 : i = r
  · subst e1; simp [hcs, hi]
  · rw [if_neg (fun e => e1 e.symm), if_neg e1]
    exact hcv i hi

theorem Gath.congr {w wr : World} {v : Value} {n r : Nat} {B : Nat → Nat} {M M' : Nat → Nat → Nat} (h : Gath w wr v n r B M) (e : ∀ j, j < r → ∀ c, c < n → M j c = M' j c) : Gath w wr v n r B M' :=
  ⟨h.kept, h.own, fun j hj => (h.row j hj).congr (fun c hc => by simp only [By]; rw [e j hj c hc]), h.lo, h.inj, h.ne⟩

set_option maxRecDepth 100000 in
set_option maxHeartbeats 1600000 in
theorem refIdentity_yes (n : Nat) (w : World) (h1 : 1 ≤ (n : Int)) (h2 : (n : Int) ≤ 255) :
    Calls Tryd.prog 108 #[.int .i64 n] w fun e w' => ∃ v B, e = .returned (.tuple #[v, .int .i64 0]) ∧ Gath w w' v n n B (ones n) := by
  have d1 : decide ((n : Int) < 1) = false := by simp; omega
  have d2 : decide (255 < (n : Int)) = false := by simp; omega
  go_enter Tryd.func108, Tryd.ntmps108
  go_wp2
  clear d1 d2
  go_loopg [4, 14] n (fun gk v i wr => ∃ (r : Nat) (B : Nat → Nat), r ≤ n ∧ gk = n - r ∧ i = .int .i64 r ∧ Gath w wr v n r B (ones n))
  case atStart => exact ⟨0, _, Nat.zero_le _, rfl, rfl, Gath.start w n _⟩
  case round =>
    obtain ⟨r, B, hr, rfl, rfl, hGa⟩ := hrel
    by_cases hlt : (r : Int) < (n : Int)
    · have hmk := run_make_row' (P := Tryd.prog) 22 5 (.int .u8 0) 1 Tryd.underlying22 info5 rfl .i64 .i64 n (by omega) (by omega)
      obtain ⟨ti, hi, hz0, hz1, hz2⟩ := info_parts info42
      have hwr := hGa.kept.size
      have hnew := World.rowIs_made wr (.int .u8 0) n 5
      have g1 := hnew.cell (i := r) (by omega)
      have g2 := hnew.frozen r
      clear hnew
      have HR : Hid ((wr.alloc (.cells ((madeCells #[.int .u8 0] n).setIfInBounds r (.int .u8 1)) 5)).rowIs wr.heap.size 5 n (By (ones n r))) := made_set wr n r _ (fun j _ => by
        simp only [By, ones]
        by_cases e : j = r
        · rw [if_pos e, if_pos ⟨by omega, e.symm⟩]; rfl
        · rw [if_neg e, if_neg (by omega)]; rfl)
      have hK : Kp (fun _ => False) wr (wr.alloc (.cells ((madeCells #[.int .u8 0] n).setIfInBounds r (.int .u8 1)) 5)) := (Kp.refl _ _).alloc _
      go_wp2_with (at_builtin; go_must (refine wpList_append_own_at _ rfl _ _ 27 rfl w.heap.size 22 ti (.slice none 0 0) 1 24 Tryd.underlying27 hi hz0 hz1 hz2 rfl (by decide) _ _ _ rfl ((ownsRow_keep hGa.own hK).alloc _) ⟨wr.heap.size + 1, 0, none⟩ 1 1 [.slice (some ⟨wr.heap.size, 0, none⟩) n n] rfl rfl ?c1 (fun x hx => by simp at hx; subst hx; rfl) (by unfold maxLen; omega) (by omega) (by simp; omega) ?_); rotate_right; intro v' w3 hown' hgrow3 hnil3 hblk3)
      case c1 => intro j u hj; simpa using cell_one_new (wr.alloc (.cells ((madeCells #[.int .u8 0] n).setIfInBounds r (.int .u8 1)) 5)) (.slice (some ⟨wr.heap.size, 0, none⟩) n n) 22 j u hj
      go_roundg (n - (r + 1))
      case rel => exact ⟨r + 1, _, by omega, rfl, by go_num, hGa.step hK HR.out hown' hgrow3 hblk3⟩
      case measure => omega
    · have e : r = n := by omega
      subst e
      go_wp2
      go_ret2
      exact ⟨_, rfl, B, hGa⟩

theorem rinv_some (b : Nat) (w : World) (hb : b < 256) (h : b ≠ 0) : Calls Tryd.prog 109 #[.int .u8 ((b : Nat) : Int)] w fun e w' => e = .returned (.tuple #[.int .u8 (Gf.inv b), .int .i64 0]) ∧ w' = w := by
  have := rinv_gen b w (by omega)
  rw [show iq b = Gf.inv b from if_neg h, show de b = 0 from if_neg h] at this
  exact this

set_option maxRecDepth 100000 in
set_option maxHeartbeats 3200000 in
theorem refGenerator_yes (K M : Nat) (w : World) (h1 : 1 ≤ (K : Int)) (h3 : (M : Int) ≤ 255 - (K : Int)) :
    Calls Tryd.prog 87 #[.agg #[.int .i64 K, .int .i64 M]] w fun e w' =>
      ∃ v, e = .returned (.tuple #[v, .int .i64 0]) ∧ Kp (fun _ => False) w w' ∧ Mx w' v (K + M) K (gen K) := by
  have d1 : decide ((K : Int) < 1) = false := by simp; omega
  have d2 : decide ((M : Int) < 0) = false := by simp
  have d3 : decide (255 < (K : Int)) = false := by simp; omega
  have d4 : decide (255 - (K : Int) < (M : Int)) = false := by simp; omega
  go_enter Tryd.func87, Tryd.ntmps87
  go_wp2_with fail
  obtain ⟨wa, hwa⟩ : ∃ x, x = w.alloc (.cells #[.int .i64 (K : Int), .int .i64 (M : Int)] 26) := ⟨_, rfl⟩
  have q1 : wa.cell? ⟨w.heap.size, 0, none⟩ = some (.int .i64 (K : Int)) := by rw [hwa]; go_simp
  have q2 : wa.cell? ⟨w.heap.size, 1, none⟩ = some (.int .i64 (M : Int)) := by rw [hwa]; go_simp
  have k0 : Kp (fun _ => False) w wa := by rw [hwa]; exact (Kp.refl _ _).alloc _
  rw [← hwa]
  refine (refIdentity_yes K wa h1 (by omega)).mono ?_
  rintro e w2 ⟨v0, B0, rfl, hG0⟩
  have s2 := hG0.kept.cellv q2 id
  have hG1 : Gath wa w2 v0 K (K + 0) B0 (gen K) := hG0.congr (fun j hj c _ => by unfold gen; rw [if_pos hj])
  clear hwa d1 d2 d3 d4 hG0
  go_wp2
  clear s2
  go_loopg [4, 38] M (fun gk v x wr => ∃ (i : Nat) (B : Nat → Nat), i ≤ M ∧ gk = M - i ∧ x = .int .i64 i ∧ Gath wa wr v K (K + i) B (gen K))
  case atStart => exact ⟨0, _, Nat.zero_le _, rfl, rfl, hG1⟩
  case round =>
    obtain ⟨i, B, hi, rfl, rfl, hGa⟩ := hrel
    obtain ⟨wr0, rfl⟩ : ∃ x, x = wr := ⟨_, rfl⟩
    clear hG1
    have s1 := hGa.kept.cellv q1 id
    by_cases hlt : (i : Int) < (M : Int)
    · have hmk := run_make_row' (P := Tryd.prog) 22 5 (.int .u8 0) 1 Tryd.underlying22 info5 rfl .i64 .i64 K (by omega) (by omega)
      obtain ⟨ti, hti, hz0, hz1, hz2⟩ := info_parts info42
      have hwr := hGa.kept.size
      have hnew := World.rowIs_made wr0 (.int .u8 0) K 5
      go_wp2
      clear hmk s1
      go_loopg [46] K (fun gk x wq => ∃ k : Nat, k ≤ K ∧ gk = K - k ∧ x = .int .i64 k ∧ Kp (fun _ => False) wr0 wq ∧ wq.heap.size = wr0.heap.size + 1 ∧ wq.rowIs wr0.heap.size 5 K (By (upTo (gen K (K + i)) k)))
      case atStart => exact ⟨0, Nat.zero_le _, rfl, rfl, (Kp.refl _ _).alloc _, by simp, by rw [upTo_zero]; exact hnew⟩
      case round =>
        obtain ⟨k, hk, rfl, rfl, hK, hz, hR⟩ := hrel
        clear hnew
        have s1 := hK.cellv (hGa.kept.cellv q1 id) id
        by_cases hlk : (k : Int) < (K : Int)
        · have e3 := hR.frozen k
          have e2 := hR.cell (i := k) (by omega)
          have hw1 : IntKind.u8.wrap ((K : Int) + (i : Int)) = (K : Int) + (i : Int) := by rw [IntKind.wrap_u8']; omega
          have hw2 : IntKind.u8.wrap (k : Int) = (k : Int) := by rw [IntKind.wrap_u8']; omega
          have hx : bits .xor .u8 ((K : Int) + (i : Int)) (k : Int) = (((K + i) ^^^ k : Nat) : Int) := by
            rw [show (K : Int) + (i : Int) = ((K + i : Nat) : Int) from by simp]
            exact u8_xor_nat _ _ (by omega) (by omega)
          have hb := xor8 (show K + i < 256 by omega) (show k < 256 by omega)
          have hx0 : (K + i) ^^^ k ≠ 0 := xor_ne (by omega)
          have HX : Hid ((K + i) ^^^ k ≠ 0) := hx0
          have HG : Hid (Gf.inv ((K + i) ^^^ k) = gen K (K + i) k) := by
            show _ = _
            unfold gen; rw [if_neg (by omega)]
          clear hx0
          simp only [By] at e2
          go_wp2_with (go_at_call 109; refine (rinv_some ((K + i) ^^^ k) _ hb HX.out).mono ?_; rintro e w' ⟨rfl, rfl⟩)
          go_roundg (K - (k + 1))
          case rel => exact ⟨k + 1, by omega, rfl, by go_num, hK.setCell (fun h => absurd h (Nat.lt_irrefl _)) _, by simpa using hz, (hR.set k _).congr (fun j _ => by
            simp only [By]
            rw [upTo_succ]
            split
            · rw [HG.out]
            · rfl)⟩
          case measure => omega
        · have e : K = k := by omega
          subst e
          have hrowk : wr.rowIs wr0.heap.size 5 K (By (gen K (K + i))) := hR.congr (fun j hj => by simp only [By, upTo]; rw [if_pos hj])
          have HZ : Hid (wr.heap.size = wr0.heap.size + 1) := hz
          clear hz
          go_wp2_with (at_builtin; go_must (refine wpList_append_own_at _ rfl _ _ 27 rfl wa.heap.size 22 ti (.slice none 0 0) 1 24 Tryd.underlying27 hti hz0 hz1 hz2 rfl (by decide) _ _ _ rfl ((ownsRow_keep hGa.own hK).alloc _) ⟨wr.heap.size, 0, none⟩ 1 1 [.slice (some ⟨wr0.heap.size, 0, none⟩) K K] rfl rfl (cell_one_new _ _ _) (fun x hx => by simp at hx; subst hx; rfl) (by unfold maxLen; omega) (by omega) (by simp; have := HZ.out; omega) ?_); intro v' w3 hown' hgrow3 hnil3 hblk3)
          go_roundg (M - (i + 1))
          case rel => exact ⟨i + 1, _, by omega, rfl, by go_num, hGa.step hK hrowk hown' hgrow3 hblk3⟩
          case measure => omega
    · have e : M = i := by omega
      subst e
      obtain ⟨t, cap, rfl, _, hMt⟩ := hGa.mt (by omega) (gen_lt K)
      go_wp2
      go_ret2
      exact ⟨_, rfl, k0.trans hGa.kept (fun _ _ e => e), hMt.mx cap⟩

set_option maxRecDepth 100000 in
set_option maxHeartbeats 800000 in
theorem refIdentity_no (n : Int) (w : World) (h : n < 1 ∨ 255 < n) :
    Calls Tryd.prog 108 #[.int .i64 n] w fun e w' => e = .returned (.tuple #[.slice none 0 0, .int .i64 1]) ∧ w' = w := by
  by_cases h1 : n < 1
  · have d1 : decide (n < 1) = true := by simp; omega
    clear h
    go_enter Tryd.func108, Tryd.ntmps108
    go_wp2
    go_ret2
    exact ⟨rfl, rfl⟩
  · have d1 : decide (n < 1) = false := by simp; omega
    have h2 : 255 < n := by omega
    have d2 : decide (255 < n) = true := by simp; omega
    clear h
    go_enter Tryd.func108, Tryd.ntmps108
    go_wp2
    go_ret2
    exact ⟨rfl, rfl⟩

set_option maxRecDepth 100000 in
set_option maxHeartbeats 800000 in
theorem isCode_no (K M : Int) (w : World) (hw : 1 ≤ K → wrap64 (255 - K) = 255 - K) (h : ¬ (1 ≤ K ∧ 0 ≤ M ∧ M ≤ 255 - K)) :
    Calls Tryd.prog 134 #[.agg #[.int .i64 K, .int .i64 M]] w fun e w' => e = .returned (.bool false) ∧ Kp (fun _ => False) w w' := by
  by_cases h1 : 1 ≤ K
  · have hw' := hw h1
    clear hw
    have d1 : decide (1 ≤ K) = true := by simp; omega
    by_cases h2 : 0 ≤ M
    · have d2 : decide (0 ≤ M) = true := by simp; omega
      have h3 : ¬ M ≤ 255 - K := by omega
      have d3 : decide (M ≤ 255 - K) = false := by simp; omega
      clear h
      go_enter Tryd.func134, Tryd.ntmps134
      go_wp2
      go_ret
      exact ⟨rfl, (Kp.refl _ _).alloc _⟩
    · have d2 : decide (0 ≤ M) = false := by simp; omega
      clear h
      go_enter Tryd.func134, Tryd.ntmps134
      go_wp2
      go_ret
      exact ⟨rfl, (Kp.refl _ _).alloc _⟩
  · have d1 : decide (1 ≤ K) = false := by simp; omega
    clear h hw
    go_enter Tryd.func134, Tryd.ntmps134
    go_wp2
    go_ret
    exact ⟨rfl, (Kp.refl _ _).alloc _⟩

set_option maxRecDepth 100000 in
set_option maxHeartbeats 800000 in
theorem generator_no (K M : Int) (w : World) (hw : 1 ≤ K → wrap64 (255 - K) = 255 - K) (h : ¬ (1 ≤ K ∧ 0 ≤ M ∧ M ≤ 255 - K)) :
    Calls Tryd.prog 122 #[.agg #[.int .i64 K, .int .i64 M]] w fun e w' => e = .returned (.tuple #[.slice none 0 0, .int .i64 1]) ∧ Kp (fun _ => False) w w' := by
  have HC : Hid (∀ w, Calls _ _ _ w _) := fun w => isCode_no K M w hw h
  clear hw h
  go_enter Tryd.func122, Tryd.ntmps122
  go_wp2_with fail
  refine (HC.out _).mono ?_
  rintro e w1 ⟨rfl, k1⟩
  have kk : Kp (fun _ => False) w w1 := ((Kp.refl _ w).alloc _).trans k1 (fun _ _ e => e)
  go_wp2
  go_ret2
  exact ⟨rfl, kk⟩

set_option maxRecDepth 100000 in
set_option maxHeartbeats 800000 in
theorem refGenerator_no (K M : Int) (w : World) (h : ¬ (1 ≤ K ∧ 0 ≤ M ∧ M ≤ 255 - K)) :
    Calls Tryd.prog 87 #[.agg #[.int .i64 K, .int .i64 M]] w fun e w' => e = .returned (.tuple #[.slice none 0 0, .int .i64 1]) ∧ Kp (fun _ => False) w w' := by
  by_cases h1 : K < 1
  · have d1 : decide (K < 1) = true := by simp; omega
    clear h
    go_enter Tryd.func87, Tryd.ntmps87
    go_wp2
    go_ret2
    exact ⟨rfl, (Kp.refl _ _).alloc _⟩
  · have d1 : decide (K < 1) = false := by simp; omega
    by_cases h2 : M < 0
    · have d2 : decide (M < 0) = true := by simp; omega
      clear h
      go_enter Tryd.func87, Tryd.ntmps87
      go_wp2
      go_ret2
      exact ⟨rfl, (Kp.refl _ _).alloc _⟩
    · have d2 : decide (M < 0) = false := by simp; omega
      by_cases h3 : 255 < K
      · have d3 : decide (255 < K) = true := by simp; omega
        clear h
        go_enter Tryd.func87, Tryd.ntmps87
        go_wp2
        go_ret2
        exact ⟨rfl, (Kp.refl _ _).alloc _⟩
      · have d3 : decide (255 < K) = false := by simp; omega
        have h4 : 255 - K < M := by omega
        have d4 : decide (255 - K < M) = true := by simp; omega
        clear h
        go_enter Tryd.func87, Tryd.ntmps87
        go_wp2
        go_ret2
        exact ⟨rfl, (Kp.refl _ _).alloc _⟩

end Go.Proofs.YtmncocmeafcpfaaDoor.Mf
