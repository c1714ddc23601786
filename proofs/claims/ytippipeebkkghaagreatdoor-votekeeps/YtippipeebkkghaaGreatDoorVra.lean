/- The reference's log on a new plate: numbers, sectors. -/
import Derived.Test.YtippipeebkkghaaGreatDoorPu
import Derived.Test.YtippipeebkkghaaGreatDoorFu
import Derived.Test.YtippipeebkkghaaGreatDoorPa
import Derived.BigQuiet
namespace Go.Proofs.YtippipeebkkghaaGreatDoor
set_option linter.unusedVariables false
set_option linter.unusedSimpArgs false
open Go.RowKit Go.Deep Go.Maps

set_option maxRecDepth 100000 in
theorem xsize_ok {w : World} {wx x tb tw td n : Nat} {Bf Wf : Nat → List Nat} {df : Nat → Bool} {Y : Nat → Prop} (h : Rp w x tb tw td n Bf Wf df Y) (hc : w.cell? ⟨wx, 0, none⟩ = some (.pointer (some ⟨x, 0, none⟩))) :
    Calls Tryz.prog 113 #[.pointer (some ⟨wx, 0, none⟩)] w fun e w' => e = .returned (.int .i64 ((n : Int) - 2)) ∧ w' = w := by
  obtain ⟨c, _, c1⟩ := h.c1
  have h1 : (1 : Int) ≤ (n : Int) := by have := h.n1; omega
  have h2 : (n : Int) ≤ 8192 := by have := h.n2; omega
  have hw : wrap64 ((n : Int) - 2) = (n : Int) - 2 := by unfold wrap64; omega
  clear h
  go_enter Tryz.func113, Tryz.ntmps113
  go_wp2_with fail
  go_ret
  exact ⟨rfl, rfl⟩

set_option maxRecDepth 100000 in
set_option maxHeartbeats 1600000 in
theorem xbig0_ok {w : World} {p : Option Addr} {n c : Nat} {xs : List Nat} (h : Rb w p n xs) (h0 : ∀ x ∈ xs, x = 0) (hn1 : 1 ≤ n) (hn2 : n ≤ 1000) :
    Calls Tryz.prog 157 #[.slice p n c] w fun e w' => e = .returned (.tuple #[.int .i64 0, .bool true]) ∧ w' = w := by
  have HC : Hid (∀ j, j < n → ∃ b o, p = some ⟨b, o, none⟩ ∧ w.cell? ⟨b, o + j, none⟩ = some (.int .u8 0)) := fun j hj => by
    obtain ⟨b, o, e, hc⟩ := h.cell j hj
    refine ⟨b, o, e, ?_⟩
    have hj2 : j < xs.length := by rw [h.len]; exact hj
    have hz : xs.getD j 0 = 0 := by
      rw [List.getD_eq_getElem?_getD, List.getElem?_eq_getElem hj2]
      exact h0 _ (List.getElem_mem hj2)
    rw [hz] at hc
    exact hc
  obtain ⟨b0, o0, e0, c0⟩ := HC.out 0 (by omega)
  rw [Nat.add_zero] at c0
  have HN : Hid (1 ≤ n ∧ n ≤ 1000) := ⟨hn1, hn2⟩
  have hn0 : 0 < n := by omega
  subst e0
  clear h h0 hn1 hn2
  go_enter Tryz.func157, Tryz.ntmps157
  go_wp2_with fail
  go_loopg [4, 13] n (fun gk nv iv wr => wr = w ∧ ∃ j : Nat, j ≤ n ∧ gk = n - j ∧ iv = .int .i64 (j : Int) ∧ nv = .int .i64 0)
  case atStart => exact ⟨rfl, 0, Nat.zero_le _, rfl, rfl, rfl⟩
  case round =>
    obtain ⟨rfl, j, hj, rfl, rfl, rfl⟩ := hrel
    by_cases hlt : j < n
    · have hlt2 : (j : Int) < (n : Int) := by omega
      obtain ⟨b1, o1, e1, c1⟩ := HC.out j hlt
      cases e1
      have hw1 : wrap64 ((j : Int) + 1) = ((j + 1 : Nat) : Int) := by have := HN.out; unfold wrap64; omega
      have HJ : Hid (j < n) := hlt
      clear hlt
      go_wp2_with fail
      go_roundg (n - (j + 1))
      case rel => exact ⟨rfl, j + 1, HJ.out, rfl, by first | rw [hw1] | simp, rfl⟩
      case measure => exact Nat.sub_lt_sub_left HJ.out (Nat.lt_succ_self j)
    · have hjn : j = n := by omega
      subst hjn
      have hlt2 : ¬ ((j : Int) < (j : Int)) := by omega
      go_wp2
      go_ret2
      exact ⟨rfl, rfl⟩

set_option maxRecDepth 100000 in
set_option maxHeartbeats 1600000 in
theorem xnought_ok {w : World} {p : Option Addr} {c : Nat} (h : Rb w p 64 (List.replicate 64 0)) :
    Calls Tryz.prog 114 #[.slice p 64 c] w fun e w' => e = .returned (.bool true) ∧ Kp (fun _ => False) w w' := by
  have hmk : ∀ w : World, (Instr.makeSlice 75 (.int .i64 64) (.int .i64 64)).run Tryz.prog w = .ok (.slice (some ⟨w.heap.size, 0, none⟩) 64 64) (w.alloc (.cells (madeCells #[.int .u8 0] 64) 5)) := fun w => run_make_row' (P := Tryz.prog) 75 5 (.int .u8 0) 1 Tryz.underlying75 info5 rfl .i64 .i64 64 (by omega) (by omega) w
  have hcv : ∀ z, Kp (fun _ => False) w z → (convert 75 9 (.slice p 64 c)).run Tryz.prog z = .ok (.string (str (List.replicate 64 0))) z := fun z k => convert_bytes p 64 c _ z (h.keep0 k)
  have kd : Kp (fun _ => False) w w.drew := (Kp.refl _ _).drew
  have ka : Kp (fun _ => False) w (w.alloc (.cells (madeCells #[.int .u8 0] 64) 5)).drew := ((Kp.refl _ _).alloc _).drew
  have hcm : (convert 75 9 (.slice (some ⟨w.heap.size, 0, none⟩) 64 64)).run Tryz.prog (w.alloc (.cells (madeCells #[.int .u8 0] 64) 5)).drew = .ok (.string (str (List.replicate 64 0))) (w.alloc (.cells (madeCells #[.int .u8 0] 64) 5)).drew := by
    obtain ⟨q, cq, e, _, hr, _⟩ := (made_ow w).rb (fun x hx => by rw [List.eq_of_mem_replicate hx]; omega)
    have e : (.slice (some ⟨w.heap.size, 0, none⟩) 64 64 : Value) = .slice q (List.replicate 64 0).length cq := e
    rw [e]
    exact convert_bytes q _ cq _ _ (hr.keep0 (Kp.refl _ _).drew)
  have h1 := hcv _ kd
  have h2 := hcv _ ka
  have HF : Hid (Kp (fun _ => False) w (w.alloc (.cells (madeCells #[.int .u8 0] 64) 5)).drew) := ka
  clear h hcv kd ka
  go_enter Tryz.func114, Tryz.ntmps114
  go_upto_region 1 with fail
  go_region
  all_goals
    go_simp
    go_wp2_with fail
    go_ret
    exact ⟨rfl, HF.out⟩
end Go.Proofs.YtippipeebkkghaaGreatDoor
