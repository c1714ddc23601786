/- epoch.nodes of one node: firstNodes(1), rising (laid by scripts/mkwh.py). -/
import Derived.Test.YtfeecopjacpjnaaGreatWg
namespace Go.Proofs.YtfeecopjacpjnaaGreat
set_option linter.unusedVariables false
set_option linter.unusedSimpArgs false
open Go.RowKit Go.Deep Go.Maps

theorem szNd : (Tryz.prog.info? 30).map (·.size) = some 16 := by kernel_rfl
theorem dsNd : ∃ d, Tryz.prog.underlying 30 = some d ∧ d.isRow = true := ⟨_, Tryz.underlying30, rfl⟩
/-- none, the first one -/
theorem n1_one : (#[.bool true, .bool false, .bool false, .bool false, .bool false, .bool false, .bool false, .bool false, .bool false, .bool false, .bool false, .bool false, .bool false, .bool false, .bool false, .bool false] : Array Value).all (·.oneCell') = true := all_oneCell_toArray (fun u hu => by
  simp only [List.mem_cons, List.not_mem_nil, or_false] at hu
  rcases hu with rfl | rfl | rfl | rfl | rfl | rfl | rfl | rfl | rfl | rfl | rfl | rfl | rfl | rfl | rfl | rfl <;> rfl)

set_option maxRecDepth 100000 in
set_option maxHeartbeats 1600000 in
theorem first1 (w : World) : Calls Tryz.prog 50 #[.int .i64 1] w fun e w' => e = .returned (.agg (#[.bool true, .bool false, .bool false, .bool false, .bool false, .bool false, .bool false, .bool false, .bool false, .bool false, .bool false, .bool false, .bool false, .bool false, .bool false, .bool false] : Array Value)) ∧ Kp (fun _ => False) w w' := by
  have HL2 : Hid (Lv ((w.alloc (.cells (#[.bool false, .bool false, .bool false, .bool false, .bool false, .bool false, .bool false, .bool false, .bool false, .bool false, .bool false, .bool false, .bool false, .bool false, .bool false, .bool false] : Array Value) 30)).alloc (.cells (#[.bool false, .bool false, .bool false, .bool false, .bool false, .bool false, .bool false, .bool false, .bool false, .bool false, .bool false, .bool false, .bool false, .bool false, .bool false, .bool false] : Array Value) 30)) w.heap.size [.bool false, .bool false, .bool false, .bool false, .bool false, .bool false, .bool false, .bool false, .bool false, .bool false, .bool false, .bool false, .bool false, .bool false, .bool false, .bool false]) := (Lv.new w (#[.bool false, .bool false, .bool false, .bool false, .bool false, .bool false, .bool false, .bool false, .bool false, .bool false, .bool false, .bool false, .bool false, .bool false, .bool false, .bool false] : Array Value) 30).keep ((Kp.refl (fun _ => False) _).alloc _) id
  have HL3 : Hid (Lv ((w.alloc (.cells (#[.bool false, .bool false, .bool false, .bool false, .bool false, .bool false, .bool false, .bool false, .bool false, .bool false, .bool false, .bool false, .bool false, .bool false, .bool false, .bool false] : Array Value) 30)).alloc (.cells (#[.bool false, .bool false, .bool false, .bool false, .bool false, .bool false, .bool false, .bool false, .bool false, .bool false, .bool false, .bool false, .bool false, .bool false, .bool false, .bool false] : Array Value) 30)) (w.heap.size + 1) [.bool false, .bool false, .bool false, .bool false, .bool false, .bool false, .bool false, .bool false, .bool false, .bool false, .bool false, .bool false, .bool false, .bool false, .bool false, .bool false]) := by
    have := Lv.new (w.alloc (.cells (#[.bool false, .bool false, .bool false, .bool false, .bool false, .bool false, .bool false, .bool false, .bool false, .bool false, .bool false, .bool false, .bool false, .bool false, .bool false, .bool false] : Array Value) 30)) (#[.bool false, .bool false, .bool false, .bool false, .bool false, .bool false, .bool false, .bool false, .bool false, .bool false, .bool false, .bool false, .bool false, .bool false, .bool false, .bool false] : Array Value) 30
    rw [show (w.alloc (.cells (#[.bool false, .bool false, .bool false, .bool false, .bool false, .bool false, .bool false, .bool false, .bool false, .bool false, .bool false, .bool false, .bool false, .bool false, .bool false, .bool false] : Array Value) 30)).heap.size = w.heap.size + 1 by simp] at this
    exact this
  have HK : Hid (Kp (fun _ => False) w ((w.alloc (.cells (#[.bool false, .bool false, .bool false, .bool false, .bool false, .bool false, .bool false, .bool false, .bool false, .bool false, .bool false, .bool false, .bool false, .bool false, .bool false, .bool false] : Array Value) 30)).alloc (.cells (#[.bool false, .bool false, .bool false, .bool false, .bool false, .bool false, .bool false, .bool false, .bool false, .bool false, .bool false, .bool false, .bool false, .bool false, .bool false, .bool false] : Array Value) 30))) := ((Kp.refl _ _).alloc _).alloc _
  go_enter Tryz.func50, Tryz.ntmps50
  go_wp2_with fail
  obtain ⟨u0, hu0⟩ : ∃ x, x = (w.alloc (.cells (#[.bool false, .bool false, .bool false, .bool false, .bool false, .bool false, .bool false, .bool false, .bool false, .bool false, .bool false, .bool false, .bool false, .bool false, .bool false, .bool false] : Array Value) 30)).alloc (.cells (#[.bool false, .bool false, .bool false, .bool false, .bool false, .bool false, .bool false, .bool false, .bool false, .bool false, .bool false, .bool false, .bool false, .bool false, .bool false, .bool false] : Array Value) 30) := ⟨_, rfl⟩
  rw [← hu0] at HL2 HL3 HK
  go_loopg [6] 1 (fun gk iv wz => (gk = 1 ∧ iv = .int .i64 0 ∧ u0 = wz) ∨ (gk = 0 ∧ iv = .int .i64 1 ∧ Hid (Kp (fun _ => False) w wz) ∧ Hid (Lv wz w.heap.size [.bool false, .bool false, .bool false, .bool false, .bool false, .bool false, .bool false, .bool false, .bool false, .bool false, .bool false, .bool false, .bool false, .bool false, .bool false, .bool false]) ∧ Hid (Lv wz (w.heap.size + 1) [.bool true, .bool false, .bool false, .bool false, .bool false, .bool false, .bool false, .bool false, .bool false, .bool false, .bool false, .bool false, .bool false, .bool false, .bool false, .bool false])))
  case atStart => exact Or.inl ⟨rfl, rfl, hu0⟩
  case round =>
    clear hu0
    rcases hrel with ⟨rfl, rfl, rfl⟩ | ⟨rfl, rfl, HKz, HA, HB⟩
    · have c0 : u0.cell? ⟨w.heap.size + 1, 0, none⟩ = some (.bool false) := HL3.out.cell (j := 0) rfl
      have f0 : u0.frozen? ⟨w.heap.size + 1, 0, none⟩ = false := HL3.out.fz (j := 0) (by decide)
      have HB2 : Hid (Lv (u0.setCell ⟨w.heap.size + 1, 0, none⟩ (.bool true)) (w.heap.size + 1) [.bool true, .bool false, .bool false, .bool false, .bool false, .bool false, .bool false, .bool false, .bool false, .bool false, .bool false, .bool false, .bool false, .bool false, .bool false, .bool false]) := HL3.out.set1 0 (.bool true) (by decide)
      have HKs : Hid (Kp (fun b => b = w.heap.size + 1) u0 (u0.setCell ⟨w.heap.size + 1, 0, none⟩ (.bool true))) := (by show Kp _ _ _; exact (Kp.refl (fun b => b = w.heap.size + 1) u0).setCell (fun _ => rfl) _)
      go_wp2_with fail
      go_roundg 0
      case rel => exact Or.inr ⟨rfl, rfl, HK.out.trans HKs.out (fun b hb e => by omega), HL2.out.keep HKs.out (by omega), HB2.out⟩
      case measure => omega
    · go_wp2_with (first
        | (refine wpList_load_all rfl 30 _ rfl 16 (w.heap.size + 1) [.bool true, .bool false, .bool false, .bool false, .bool false, .bool false, .bool false, .bool false, .bool false, .bool false, .bool false, .bool false, .bool false, .bool false, .bool false, .bool false] rfl HB.out dsNd szNd rfl ?_)
        | (refine wpList_store_all rfl 30 _ _ rfl 16 w.heap.size [.bool false, .bool false, .bool false, .bool false, .bool false, .bool false, .bool false, .bool false, .bool false, .bool false, .bool false, .bool false, .bool false, .bool false, .bool false, .bool false] [.bool true, .bool false, .bool false, .bool false, .bool false, .bool false, .bool false, .bool false, .bool false, .bool false, .bool false, .bool false, .bool false, .bool false, .bool false, .bool false] rfl rfl HA.out szNd rfl rfl n1_one ?_; intro w2 hl2 k2)
        | fail)
      refine bodyPost_ret (res_cell Tryz.results50 _ _ w.heap.size _ rfl (hl2.load dsNd szNd rfl)) rfl ?_
      exact ⟨rfl, HKz.out.trans k2 (fun b hb e => by omega)⟩

theorem idn_0 (u : World) : (Instr.index 30 (.agg (#[.bool true, .bool false, .bool false, .bool false, .bool false, .bool false, .bool false, .bool false, .bool false, .bool false, .bool false, .bool false, .bool false, .bool false, .bool false, .bool false] : Array Value)) (.int .i64 0)).run Tryz.prog u = .ok (.bool true) u := by kernel_rfl
theorem idn_1 (u : World) : (Instr.index 30 (.agg (#[.bool true, .bool false, .bool false, .bool false, .bool false, .bool false, .bool false, .bool false, .bool false, .bool false, .bool false, .bool false, .bool false, .bool false, .bool false, .bool false] : Array Value)) (.int .i64 1)).run Tryz.prog u = .ok (.bool false) u := by kernel_rfl
theorem idn_2 (u : World) : (Instr.index 30 (.agg (#[.bool true, .bool false, .bool false, .bool false, .bool false, .bool false, .bool false, .bool false, .bool false, .bool false, .bool false, .bool false, .bool false, .bool false, .bool false, .bool false] : Array Value)) (.int .i64 2)).run Tryz.prog u = .ok (.bool false) u := by kernel_rfl
theorem idn_3 (u : World) : (Instr.index 30 (.agg (#[.bool true, .bool false, .bool false, .bool false, .bool false, .bool false, .bool false, .bool false, .bool false, .bool false, .bool false, .bool false, .bool false, .bool false, .bool false, .bool false] : Array Value)) (.int .i64 3)).run Tryz.prog u = .ok (.bool false) u := by kernel_rfl
theorem idn_4 (u : World) : (Instr.index 30 (.agg (#[.bool true, .bool false, .bool false, .bool false, .bool false, .bool false, .bool false, .bool false, .bool false, .bool false, .bool false, .bool false, .bool false, .bool false, .bool false, .bool false] : Array Value)) (.int .i64 4)).run Tryz.prog u = .ok (.bool false) u := by kernel_rfl
theorem idn_5 (u : World) : (Instr.index 30 (.agg (#[.bool true, .bool false, .bool false, .bool false, .bool false, .bool false, .bool false, .bool false, .bool false, .bool false, .bool false, .bool false, .bool false, .bool false, .bool false, .bool false] : Array Value)) (.int .i64 5)).run Tryz.prog u = .ok (.bool false) u := by kernel_rfl
theorem idn_6 (u : World) : (Instr.index 30 (.agg (#[.bool true, .bool false, .bool false, .bool false, .bool false, .bool false, .bool false, .bool false, .bool false, .bool false, .bool false, .bool false, .bool false, .bool false, .bool false, .bool false] : Array Value)) (.int .i64 6)).run Tryz.prog u = .ok (.bool false) u := by kernel_rfl
theorem idn_7 (u : World) : (Instr.index 30 (.agg (#[.bool true, .bool false, .bool false, .bool false, .bool false, .bool false, .bool false, .bool false, .bool false, .bool false, .bool false, .bool false, .bool false, .bool false, .bool false, .bool false] : Array Value)) (.int .i64 7)).run Tryz.prog u = .ok (.bool false) u := by kernel_rfl
theorem idn_8 (u : World) : (Instr.index 30 (.agg (#[.bool true, .bool false, .bool false, .bool false, .bool false, .bool false, .bool false, .bool false, .bool false, .bool false, .bool false, .bool false, .bool false, .bool false, .bool false, .bool false] : Array Value)) (.int .i64 8)).run Tryz.prog u = .ok (.bool false) u := by kernel_rfl
theorem idn_9 (u : World) : (Instr.index 30 (.agg (#[.bool true, .bool false, .bool false, .bool false, .bool false, .bool false, .bool false, .bool false, .bool false, .bool false, .bool false, .bool false, .bool false, .bool false, .bool false, .bool false] : Array Value)) (.int .i64 9)).run Tryz.prog u = .ok (.bool false) u := by kernel_rfl
theorem idn_10 (u : World) : (Instr.index 30 (.agg (#[.bool true, .bool false, .bool false, .bool false, .bool false, .bool false, .bool false, .bool false, .bool false, .bool false, .bool false, .bool false, .bool false, .bool false, .bool false, .bool false] : Array Value)) (.int .i64 10)).run Tryz.prog u = .ok (.bool false) u := by kernel_rfl
theorem idn_11 (u : World) : (Instr.index 30 (.agg (#[.bool true, .bool false, .bool false, .bool false, .bool false, .bool false, .bool false, .bool false, .bool false, .bool false, .bool false, .bool false, .bool false, .bool false, .bool false, .bool false] : Array Value)) (.int .i64 11)).run Tryz.prog u = .ok (.bool false) u := by kernel_rfl
theorem idn_12 (u : World) : (Instr.index 30 (.agg (#[.bool true, .bool false, .bool false, .bool false, .bool false, .bool false, .bool false, .bool false, .bool false, .bool false, .bool false, .bool false, .bool false, .bool false, .bool false, .bool false] : Array Value)) (.int .i64 12)).run Tryz.prog u = .ok (.bool false) u := by kernel_rfl
theorem idn_13 (u : World) : (Instr.index 30 (.agg (#[.bool true, .bool false, .bool false, .bool false, .bool false, .bool false, .bool false, .bool false, .bool false, .bool false, .bool false, .bool false, .bool false, .bool false, .bool false, .bool false] : Array Value)) (.int .i64 13)).run Tryz.prog u = .ok (.bool false) u := by kernel_rfl
theorem idn_14 (u : World) : (Instr.index 30 (.agg (#[.bool true, .bool false, .bool false, .bool false, .bool false, .bool false, .bool false, .bool false, .bool false, .bool false, .bool false, .bool false, .bool false, .bool false, .bool false, .bool false] : Array Value)) (.int .i64 14)).run Tryz.prog u = .ok (.bool false) u := by kernel_rfl
theorem idn_15 (u : World) : (Instr.index 30 (.agg (#[.bool true, .bool false, .bool false, .bool false, .bool false, .bool false, .bool false, .bool false, .bool false, .bool false, .bool false, .bool false, .bool false, .bool false, .bool false, .bool false] : Array Value)) (.int .i64 15)).run Tryz.prog u = .ok (.bool false) u := by kernel_rfl

set_option maxRecDepth 100000 in
set_option maxHeartbeats 6400000 in
theorem rising1 (w : World) : Calls Tryz.prog 28 #[.agg (#[.bool true, .bool false, .bool false, .bool false, .bool false, .bool false, .bool false, .bool false, .bool false, .bool false, .bool false, .bool false, .bool false, .bool false, .bool false, .bool false] : Array Value)] w fun e w' => ∃ v, e = .returned v ∧ w'.ownsRow w.heap.size 3 1 v 1 [.int .i64 0] ∧ Kp (fun _ => False) w w' := by
  have HK : Hid (Kp (fun _ => False) w (w.alloc (.cells (#[.bool true, .bool false, .bool false, .bool false, .bool false, .bool false, .bool false, .bool false, .bool false, .bool false, .bool false, .bool false, .bool false, .bool false, .bool false, .bool false] : Array Value) 30))) := (Kp.refl _ _).alloc _
  have HL : Hid (Lv (w.alloc (.cells (#[.bool true, .bool false, .bool false, .bool false, .bool false, .bool false, .bool false, .bool false, .bool false, .bool false, .bool false, .bool false, .bool false, .bool false, .bool false, .bool false] : Array Value) 30)) w.heap.size [.bool true, .bool false, .bool false, .bool false, .bool false, .bool false, .bool false, .bool false, .bool false, .bool false, .bool false, .bool false, .bool false, .bool false, .bool false, .bool false]) := Lv.new w (#[.bool true, .bool false, .bool false, .bool false, .bool false, .bool false, .bool false, .bool false, .bool false, .bool false, .bool false, .bool false, .bool false, .bool false, .bool false, .bool false] : Array Value) _
  have HTi : Hid (∃ ti, Tryz.prog.info? 3 = some ti ∧ ti.zero = some (.int .i64 0) ∧ ti.size = 1 ∧ ti.bytes = 8) := by
    obtain ⟨ti, hi0, hz0, hz1, hz2⟩ := info_parts infoInt
    exact ⟨ti, hi0, hz0, hz1, hz2⟩
  obtain ⟨ti, hi0, hz0, hz1, hz2⟩ := HTi.out
  have HS : Hid (∀ u : World, Src Tryz.prog 1 25 (.slice (some ⟨u.heap.size, 0, none⟩) 1 1) 1 [.int .i64 0] (u.alloc (.cells #[.int .i64 0] 3))) := fun u =>
    Src.ofSlice _ Tryz.underlying25 ⟨u.heap.size, 0, none⟩ 1 1 [.int .i64 0] rfl (fun j v hj => by rw [Addr.add_mid, Nat.zero_add]; exact (Lv.new u #[.int .i64 0] 3).cell hj) (fun v hv => by simp at hv; subst hv; rfl)
  go_enter Tryz.func28, Tryz.ntmps28
  go_wp2_with (first
    | (refine wpList_load_all rfl 30 _ rfl 16 w.heap.size [.bool true, .bool false, .bool false, .bool false, .bool false, .bool false, .bool false, .bool false, .bool false, .bool false, .bool false, .bool false, .bool false, .bool false, .bool false, .bool false] rfl HL.out dsNd szNd rfl ?_)
    | fail)
  obtain ⟨u0, hu0⟩ : ∃ x, x = w.alloc (.cells (#[.bool true, .bool false, .bool false, .bool false, .bool false, .bool false, .bool false, .bool false, .bool false, .bool false, .bool false, .bool false, .bool false, .bool false, .bool false, .bool false] : Array Value) 30) := ⟨_, rfl⟩
  rw [← hu0] at HK
  go_loopg [3, 7] 16 (fun gk lv iv wz => ∃ (k : Nat) (v : Value), k ≤ 16 ∧ gk = 16 - k ∧ iv = .int .i64 k ∧ v = lv ∧ Hid (Kp (fun _ => False) w wz) ∧ ((k = 0 ∧ v = .slice none 0 0) ∨ (1 ≤ k ∧ Hid (wz.ownsRow w.heap.size 3 1 v 1 [.int .i64 0]))))
  case atStart => exact ⟨0, _, by omega, rfl, rfl, rfl, (by rw [← hu0]; exact HK.out), Or.inl ⟨rfl, rfl⟩⟩
  case round =>
    clear hu0 HK HL
    obtain ⟨k, v, hk, rfl, rfl, rfl, HKz, hv⟩ := hrel
    rcases hv with ⟨rfl, rfl⟩ | ⟨h1, HO⟩
    · have hx := idn_0
      go_wp2_with (first
        | (at_builtin; refine wpList_append_own_src _ rfl _ _ 25 25 rfl w.heap.size 3 ti (.int .i64 0) 1 8 Tryz.underlying25 hi0 hz0 hz1 hz2 rfl (by decide) (.slice none 0 0) 0 [] rfl (World.ownsRow_nil _ _ _ _) _ 1 [.int .i64 0] rfl (HS.out _) (by decide) (by decide) (by have := HKz.out.size; simp; omega) ?_; intro a3 w3 ho3 k3 hb3)
        | fail)
      have HK3 : Hid (Kp (fun _ => False) w w3) := (HKz.out.trans ((Kp.refl (fun _ => False) _).alloc _) (fun _ _ e => e)).trans (grownBy_kp k3) (fun b hb e => by cases e)
      have HO3 : Hid (w3.ownsRow w.heap.size 3 1 a3 1 [.int .i64 0]) := ho3
      clear ho3 k3 hb3
      go_wp2_with fail
      go_roundg 15
      case rel => exact ⟨1, a3, by omega, rfl, by first | rfl | go_num, rfl, HK3.out, Or.inr ⟨by omega, HO3.out⟩⟩
      case measure => omega
    · have hk2 : k = 16 ∨ k = 1 ∨ k = 2 ∨ k = 3 ∨ k = 4 ∨ k = 5 ∨ k = 6 ∨ k = 7 ∨ k = 8 ∨ k = 9 ∨ k = 10 ∨ k = 11 ∨ k = 12 ∨ k = 13 ∨ k = 14 ∨ k = 15 := by omega
      rcases hk2 with rfl | rfl | rfl | rfl | rfl | rfl | rfl | rfl | rfl | rfl | rfl | rfl | rfl | rfl | rfl | rfl
      · go_wp2_with fail
        go_ret
        exact ⟨_, rfl, HO.out, HKz.out⟩
      · have hx := idn_1
        go_wp2_with fail
        go_roundg 14
        case rel => exact ⟨2, v, by omega, rfl, by first | rfl | go_num, rfl, HKz.out, Or.inr ⟨by omega, HO.out⟩⟩
        case measure => omega
      · have hx := idn_2
        go_wp2_with fail
        go_roundg 13
        case rel => exact ⟨3, v, by omega, rfl, by first | rfl | go_num, rfl, HKz.out, Or.inr ⟨by omega, HO.out⟩⟩
        case measure => omega
      · have hx := idn_3
        go_wp2_with fail
        go_roundg 12
        case rel => exact ⟨4, v, by omega, rfl, by first | rfl | go_num, rfl, HKz.out, Or.inr ⟨by omega, HO.out⟩⟩
        case measure => omega
      · have hx := idn_4
        go_wp2_with fail
        go_roundg 11
        case rel => exact ⟨5, v, by omega, rfl, by first | rfl | go_num, rfl, HKz.out, Or.inr ⟨by omega, HO.out⟩⟩
        case measure => omega
      · have hx := idn_5
        go_wp2_with fail
        go_roundg 10
        case rel => exact ⟨6, v, by omega, rfl, by first | rfl | go_num, rfl, HKz.out, Or.inr ⟨by omega, HO.out⟩⟩
        case measure => omega
      · have hx := idn_6
        go_wp2_with fail
        go_roundg 9
        case rel => exact ⟨7, v, by omega, rfl, by first | rfl | go_num, rfl, HKz.out, Or.inr ⟨by omega, HO.out⟩⟩
        case measure => omega
      · have hx := idn_7
        go_wp2_with fail
        go_roundg 8
        case rel => exact ⟨8, v, by omega, rfl, by first | rfl | go_num, rfl, HKz.out, Or.inr ⟨by omega, HO.out⟩⟩
        case measure => omega
      · have hx := idn_8
        go_wp2_with fail
        go_roundg 7
        case rel => exact ⟨9, v, by omega, rfl, by first | rfl | go_num, rfl, HKz.out, Or.inr ⟨by omega, HO.out⟩⟩
        case measure => omega
      · have hx := idn_9
        go_wp2_with fail
        go_roundg 6
        case rel => exact ⟨10, v, by omega, rfl, by first | rfl | go_num, rfl, HKz.out, Or.inr ⟨by omega, HO.out⟩⟩
        case measure => omega
      · have hx := idn_10
        go_wp2_with fail
        go_roundg 5
        case rel => exact ⟨11, v, by omega, rfl, by first | rfl | go_num, rfl, HKz.out, Or.inr ⟨by omega, HO.out⟩⟩
        case measure => omega
      · have hx := idn_11
        go_wp2_with fail
        go_roundg 4
        case rel => exact ⟨12, v, by omega, rfl, by first | rfl | go_num, rfl, HKz.out, Or.inr ⟨by omega, HO.out⟩⟩
        case measure => omega
      · have hx := idn_12
        go_wp2_with fail
        go_roundg 3
        case rel => exact ⟨13, v, by omega, rfl, by first | rfl | go_num, rfl, HKz.out, Or.inr ⟨by omega, HO.out⟩⟩
        case measure => omega
      · have hx := idn_13
        go_wp2_with fail
        go_roundg 2
        case rel => exact ⟨14, v, by omega, rfl, by first | rfl | go_num, rfl, HKz.out, Or.inr ⟨by omega, HO.out⟩⟩
        case measure => omega
      · have hx := idn_14
        go_wp2_with fail
        go_roundg 1
        case rel => exact ⟨15, v, by omega, rfl, by first | rfl | go_num, rfl, HKz.out, Or.inr ⟨by omega, HO.out⟩⟩
        case measure => omega
      · have hx := idn_15
        go_wp2_with fail
        go_roundg 0
        case rel => exact ⟨16, v, by omega, rfl, by first | rfl | go_num, rfl, HKz.out, Or.inr ⟨by omega, HO.out⟩⟩
        case measure => omega
end Go.Proofs.YtfeecopjacpjnaaGreat
