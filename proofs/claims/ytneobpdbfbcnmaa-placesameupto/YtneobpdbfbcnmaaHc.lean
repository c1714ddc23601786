/- A heap's own methods. -/
import Derived.Test.YtneobpdbfbcnmaaHb
import Derived.BigRegion
namespace Go.Proofs.Ytneobpdbfbcnmaa
set_option linter.unusedVariables false
open Go.RowKit Go.Deep

set_option maxRecDepth 100000 in
theorem hlen (p : Option Addr) (n c : Nat) (w : World) : Calls Try.prog 43 #[.slice p n c] w fun e w' => e = .returned (.int .i64 n) ∧ w' = w := by
  go_enter Try.func43, Try.ntmps43
  go_wp2
  go_ret
  exact ⟨rfl, rfl⟩

set_option maxRecDepth 100000 in
set_option maxHeartbeats 800000 in
theorem hless {w : World} {base h g cap : Nat} {nd : Nat → Int} {ld : Nat → Nat} {l : List Nat} (x : Hp w base h g cap nd ld l) (i j : Nat) (hi : i < l.length) (hj : j < l.length) :
    Calls Try.prog 44 #[.slice (some ⟨g, 0, none⟩) l.length cap, .int .i64 i, .int .i64 j] w fun e w' => e = .returned (.bool (decide (ld (l.getD i 0) < ld (l.getD j 0)))) ∧ Kp (fun _ => False) w w' := by
  have ci := (x.cn hi).2
  have cj := (x.cn hj).2
  obtain ⟨a, ha⟩ : ∃ a, a = ld (l.getD i 0) := ⟨_, rfl⟩
  obtain ⟨b, hb⟩ : ∃ b, b = ld (l.getD j 0) := ⟨_, rfl⟩
  rw [← ha] at ci ⊢
  rw [← hb] at cj ⊢
  obtain ⟨n, hn⟩ : ∃ n, n = l.length := ⟨_, rfl⟩
  rw [← hn] at hi hj ⊢
  have hi2 : (i : Int) < (n : Int) := by omega
  have hj2 : (j : Int) < (n : Int) := by omega
  have hd : decide ((a : Int) < (b : Int)) = decide (a < b) := by simp
  clear x ha hb hn
  go_enter Try.func44, Try.ntmps44
  go_wp2
  go_region
  go_wp2
  go_ret
  exact ⟨by simp, (Kp.refl _ _).drew⟩

set_option maxRecDepth 100000 in
set_option maxHeartbeats 3200000 in
theorem hswap {w : World} {base h g cap : Nat} {nd : Nat → Int} {ld : Nat → Nat} {l : List Nat} (x : Hp w base h g cap nd ld l) (i j : Nat) (hi : i < l.length) (hj : j < l.length) :
    Calls Try.prog 46 #[.slice (some ⟨g, 0, none⟩) l.length cap, .int .i64 i, .int .i64 j] w fun e w' => e = .returned (.tuple #[]) ∧ Kp (fun b => b = g) w w' ∧ Hp w' base h g cap nd ld (swp l i j) := by
  have ci := x.cn hi
  have cj := x.cn hj
  obtain ⟨ai, hai⟩ : ∃ a, a = nd (l.getD i 0) := ⟨_, rfl⟩
  obtain ⟨bi, hbi⟩ : ∃ a : Int, a = (ld (l.getD i 0) : Int) := ⟨_, rfl⟩
  obtain ⟨aj, haj⟩ : ∃ a, a = nd (l.getD j 0) := ⟨_, rfl⟩
  obtain ⟨bj, hbj⟩ : ∃ a : Int, a = (ld (l.getD j 0) : Int) := ⟨_, rfl⟩
  rw [← hai, ← hbi] at ci
  rw [← haj, ← hbj] at cj
  obtain ⟨ci1, ci2⟩ := ci
  obtain ⟨cj1, cj2⟩ := cj
  have fz : ∀ k, w.frozen? ⟨g, k, none⟩ = false := fun k => own_frz x.o k
  obtain ⟨n, hn⟩ : ∃ n, n = l.length := ⟨_, rfl⟩
  obtain ⟨wf, hwf⟩ : ∃ y, y = (((w.setCell ⟨g, i * 2, none⟩ (.int .i64 aj)).setCell ⟨g, i * 2 + 1, none⟩ (.int .i64 bj)).setCell ⟨g, j * 2, none⟩ (.int .i64 ai)).setCell ⟨g, j * 2 + 1, none⟩ (.int .i64 bi) := ⟨_, rfl⟩
  have hK : Kp (fun b => b = g) w wf := by rw [hwf]; exact ((((Kp.refl (fun b => b = g) w).setCell (fun _ => rfl) _).setCell (fun _ => rfl) _).setCell (fun _ => rfl) _).setCell (fun _ => rfl) _
  have hH : Hp wf base h g cap nd ld (swp l i j) := by
    refine ⟨?_, ?_, x.ne, x.b⟩
    · rw [swp_len]; exact x.lv.keep hK (fun e => x.ne e.symm)
    · have hml := mflat_len nd ld l
      have o1 := own_set x.o (i * 2) (.int .i64 aj) (by rw [hml]; omega)
      have o2 := own_set o1 (i * 2 + 1) (.int .i64 bj) (by rw [List.length_set, hml]; omega)
      have o3 := own_set o2 (j * 2) (.int .i64 ai) (by rw [List.length_set, List.length_set, hml]; omega)
      have o4 := own_set o3 (j * 2 + 1) (.int .i64 bi) (by rw [List.length_set, List.length_set, List.length_set, hml]; omega)
      rw [← hwf] at o4
      have e1 : mflat nd ld (l.set i (l.getD j 0)) = ((mflat nd ld l).set (i * 2) (.int .i64 aj)).set (i * 2 + 1) (.int .i64 bj) := by
        rcases mflat_set nd ld l i (l.getD j 0) with e | e
        · rw [e, haj, hbj]
        · omega
      have e2 : mflat nd ld (swp l i j) = ((mflat nd ld (l.set i (l.getD j 0))).set (j * 2) (.int .i64 ai)).set (j * 2 + 1) (.int .i64 bi) := by
        unfold swp
        rcases mflat_set nd ld (l.set i (l.getD j 0)) j (l.getD i 0) with e | e
        · rw [e, hai, hbi]
        · rw [List.length_set] at e; omega
      rw [swp_len, e2, e1]
      exact o4
  have HF : Hid (∀ y : World, y = wf.drew → Kp (fun b => b = g) w y ∧ Hp y base h g cap nd ld (swp l i j)) := fun y hy => by
    rw [hy]
    exact ⟨hK.drew, hH.keep0 ((Kp.refl _ _).drew)⟩
  have HW : Hid (wf = (((w.setCell ⟨g, i * 2, none⟩ (.int .i64 aj)).setCell ⟨g, i * 2 + 1, none⟩ (.int .i64 bj)).setCell ⟨g, j * 2, none⟩ (.int .i64 ai)).setCell ⟨g, j * 2 + 1, none⟩ (.int .i64 bi)) := hwf
  rw [← hn] at hi hj ⊢
  have hi2 : (i : Int) < (n : Int) := by omega
  have hj2 : (j : Int) < (n : Int) := by omega
  by_cases hij : i = j
  · subst hij
    obtain rfl : ai = aj := by rw [hai, haj]
    obtain rfl : bi = bj := by rw [hbi, hbj]
    have e1 : (w.setCell ⟨g, i * 2, none⟩ (.int .i64 ai)).cell? ⟨g, i * 2, none⟩ = some (.int .i64 ai) := World.cell?_setCell_same _ _ _ ci1
    clear x hn hai hbi haj hbj hK hH hwf
    go_enter Try.func46, Try.ntmps46
    go_wp2
    go_region
    go_end0
    exact ⟨rfl, HF.out _ (by rw [HW.out])⟩
  · have n1 : (⟨g, i * 2, none⟩ : Addr) ≠ ⟨g, j * 2, none⟩ := fun e => by injection e with _ e; omega
    have n2 : (⟨g, i * 2 + 1, none⟩ : Addr) ≠ ⟨g, j * 2, none⟩ := fun e => by injection e with _ e; omega
    have n3 : (⟨g, i * 2, none⟩ : Addr) ≠ ⟨g, j * 2 + 1, none⟩ := fun e => by injection e with _ e; omega
    have n4 : (⟨g, i * 2 + 1, none⟩ : Addr) ≠ ⟨g, j * 2 + 1, none⟩ := fun e => by injection e with _ e; omega
    have e1 : (w.setCell ⟨g, i * 2, none⟩ (.int .i64 aj)).cell? ⟨g, j * 2, none⟩ = some (.int .i64 aj) := by rw [World.cell?_setCell_other _ _ _ _ n1]; exact cj1
    have e3 : (w.setCell ⟨g, i * 2, none⟩ (.int .i64 aj)).cell? ⟨g, j * 2 + 1, none⟩ = some (.int .i64 bj) := by rw [World.cell?_setCell_other _ _ _ _ n3]; exact cj2
    have e2 : ((w.setCell ⟨g, i * 2, none⟩ (.int .i64 aj)).setCell ⟨g, i * 2 + 1, none⟩ (.int .i64 bj)).cell? ⟨g, j * 2, none⟩ = some (.int .i64 aj) := by rw [World.cell?_setCell_other _ _ _ _ n2]; exact e1
    have e4 : ((w.setCell ⟨g, i * 2, none⟩ (.int .i64 aj)).setCell ⟨g, i * 2 + 1, none⟩ (.int .i64 bj)).cell? ⟨g, j * 2 + 1, none⟩ = some (.int .i64 bj) := by rw [World.cell?_setCell_other _ _ _ _ n4]; exact e3
    clear x hn hai hbi haj hbj hK hH hwf n1 n2 n3 n4
    go_enter Try.func46, Try.ntmps46
    go_wp2
    go_region
    go_end0
    exact ⟨rfl, HF.out _ (by rw [HW.out])⟩
end Go.Proofs.Ytneobpdbfbcnmaa
