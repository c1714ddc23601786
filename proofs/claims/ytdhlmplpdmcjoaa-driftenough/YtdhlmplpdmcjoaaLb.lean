/- The walk of the law DriftBounds. -/
import Derived.Test.YtdhlmplpdmcjoaaDy
namespace Go.Proofs.Ytdhlmplpdmcjoaa
open Go.RowKit Go.Deep Go.Maps

theorem wrap64_two (a : Nat) (h : a ≤ 60) : wrap64 (2 * (a : Int)) = 2 * (a : Int) := by unfold wrap64; omega
theorem wrap64_two2 (a : Nat) (h : a ≤ 60) : wrap64 (2 * (a : Int) + 2) = 2 * (a : Int) + 2 := by unfold wrap64; omega

set_option maxRecDepth 100000 in
set_option maxHeartbeats 1600000 in
theorem driftBounds_walk (a0 : Int) (v : Value) (L : Nat) (w : World) (hv : Ints w v L) :
    Calls Try.prog 9 #[.int .i64 a0, v] w fun e w' => e = .returned (.bool true) ∧ Kp (fun _ => False) w w' := by
  obtain ⟨p, c, zs, rfl, hzl, hc, hz, hL⟩ := hv
  have e1 : wrap64 ((IntKind.u64.wrap a0).tmod 5) = ((mm 5 a0 : Nat) : Int) := mm_eq 5 a0 (by omega) (by omega)
  have l1 := mm_lt 5 a0 (by omega)
  obtain ⟨N, hN⟩ : ∃ x, x = mm 5 a0 + 1 := ⟨_, rfl⟩
  have e3 : wrap64 (1 + ((mm 5 a0 : Nat) : Int)) = (N : Int) := by unfold wrap64; omega
  have hN1 : 1 ≤ (N : Int) := by omega
  have hN16 : (N : Int) ≤ 16 := by omega
  obtain ⟨K, hK⟩ : ∃ K, K = min L 60 := ⟨_, rfl⟩
  have hmin : min (L : Int) 60 = (K : Int) := by omega
  have hK60 : (K : Int) ≤ 60 := by omega
  have hsl := slice_hi p L c K (by omega)
  have hztl : (zs.take K).length = K := by rw [List.length_take]; omega
  have HTk : Hid (Calls _ _ _ w _) := ticks_ok N p c K (zs.take K) w hN1 hN16 hK60 hztl (fun j hj => by
    obtain ⟨bb, oo, e, hcc⟩ := hz j (by omega)
    refine ⟨bb, oo, e, ?_⟩
    rw [hcc, List.getD_eq_getElem?_getD, List.getD_eq_getElem?_getD, List.getElem?_take_of_lt (by omega)])
  have HW0 : Hid (∀ w, Calls Try.prog 36 #[.int .i64 0] w fun e w' => e = .returned (.int .i64 3) ∧ w' = w) := fun w => by
    have := wait_ok 0 w
    rw [show 2 * waits 0 + 3 = 3 from by unfold waits; omega] at this
    exact this
  have HLL : Hid (L * 8 ≤ 140737488355328) := hL
  clear hN l1 hL hz hzl hc hztl hK
  go_enter Try.func9, Try.ntmps9
  go_wp2_with (go_at_call 38; refine HTk.out.mono ?_; rintro e w1 ⟨vo, h, rfl, k1, hadm, hhl, HO⟩; obtain ⟨q, cap, hvo, hq⟩ := Oz.form HO; obtain ⟨n, hn⟩ : ∃ n, n = h.reverse.length := ⟨_, rfl⟩; rw [← hn] at hvo hq; have HN : Hid (n = h.reverse.length) := hn; have HQ : Hid (0 < n → _) := hq; have HA : Hid (adm N h) := hadm; have HHL : Hid (n ≤ K) := (by show _ ≤ _; rw [hn, List.length_reverse]; exact hhl); subst hvo; clear hn hq hadm hhl HO HTk)
  have hn60 : (n : Int) ≤ 60 := by have := HHL.out; omega
  obtain ⟨xs, hxs⟩ : ∃ xs, xs = h.reverse := ⟨_, rfl⟩
  have HSB : Hid (∀ f j a b, a < N → b < N → ((xs.drop f).take j).count a ≤ 2 * ((xs.drop f).take j).count b + 2) := fun f j a b ha hb => by rw [hxs]; exact seg_bounds HA.out f j ha hb
  have HXN : Hid (∀ j, j < n → xs.getD j 0 < N) := fun j hj => by
    have hj' : j < xs.length := by rw [hxs, ← HN.out]; exact hj
    rw [List.getD_eq_getElem?_getD, List.getElem?_eq_getElem hj']
    exact adm_mem HA.out _ (by
      have : xs[j] ∈ h.reverse := by rw [← hxs]; exact List.getElem_mem hj'
      simpa using this)
  have HXL : Hid (xs.length = n) := by show _ = _; rw [hxs, HN.out]
  rw [← hxs] at HQ
  clear hxs HA HN HHL
  have hmk : ∀ w : World, (Instr.makeSlice 32 (.int .i64 (N : Int)) (.int .i64 (N : Int))).run Try.prog w = .ok (.slice (some ⟨w.heap.size, 0, none⟩) N N) (w.alloc (.cells (madeCells #[.int .i64 0] N) 3)) := fun w =>
    run_make_row' (P := Try.prog) 32 3 (.int .i64 0) 8 Try.underlying32 infoInt rfl .i64 .i64 N (by omega) (by omega) w
  go_loopg [30] n (fun gk i wr => ∃ k : Nat, k ≤ n ∧ gk = n - k ∧ i = .int .i64 k ∧ Kp (fun _ => False) w1 wr)
  case atStart => exact ⟨0, Nat.zero_le _, rfl, rfl, Kp.refl _ _⟩
  case round =>
    obtain ⟨k, hk, rfl, rfl, kr⟩ := hrel
    by_cases hlt : (k : Int) < (n : Int)
    · obtain ⟨g, rfl, hg, hcap, hcells⟩ := HQ.out (by omega)
      have HCe : Hid (∀ j, j < n → w1.cell? ⟨g, j, none⟩ = some (encN (xs.getD j 0))) := hcells
      have hlo := slice_lo g n cap k (by omega) hcap
      have HG : Hid (g < w1.heap.size) := World.block_lt_of_cell? _ _ (hcells 0 (by omega))
      clear hcells
      go_wp2
      obtain ⟨C, hC⟩ : ∃ C, C = wr.heap.size := ⟨_, rfl⟩
      obtain ⟨w2, hw2⟩ : ∃ x, x = wr.alloc (.cells (madeCells #[.int .i64 0] N) 3) := ⟨_, rfl⟩
      have HR2 : Hid (w2.rowIs C 3 N (fun _ => .int .i64 0)) := by rw [hC, hw2]; exact World.rowIs_made _ _ _ _
      have k2 : Kp (fun _ => False) w1 w2 := by rw [hw2]; exact kr.alloc _
      have HCw : Hid (w1.heap.size ≤ C) := by show _ ≤ _; rw [hC]; exact kr.size
      rw [← hw2, ← hC]
      clear hw2 hC kr
      obtain ⟨M, hM⟩ : ∃ M, M = n - k := ⟨_, rfl⟩
      rw [← hM]
      have HMk : Hid (M = n - k) := hM
      have hM60 : (M : Int) ≤ 60 := by omega
      clear hM
      go_loopg [39] M (fun gk i wq => ∃ j : Nat, j ≤ M ∧ gk = M - j ∧ i = .int .i64 j ∧ Kp (fun x => x = C) w2 wq ∧ Hid (wq.rowIs C 3 N (fun o => .int .i64 ((((xs.drop k).take j).count o : Nat) : Int))))
      case atStart => exact ⟨0, Nat.zero_le _, rfl, rfl, Kp.refl _ _, (by
        refine HR2.out.congr (fun o _ => ?_)
        simp)⟩
      case round =>
        obtain ⟨j, hj, rfl, rfl, kq, HRq⟩ := hrel
        clear HR2
        have kwq : Kp (fun x => x = C) w1 wr := (k2.mono (fun _ _ e => e.elim)).trans kq (fun _ _ e => e)
        by_cases hltj : (j : Int) < (M : Int)
        · have hce := kwq.cellv (HCe.out (k + j) (by have := HMk.out; omega)) (by have := HG.out; have := HCw.out; show ¬ g = C; omega)
          have hxN := HXN.out (k + j) (by have := HMk.out; omega)
          obtain ⟨x, hx⟩ : ∃ x, x = xs.getD (k + j) 0 := ⟨_, rfl⟩
          rw [← hx] at hce hxN
          have hcx := HRq.out.cell hxN
          have hfx := HRq.out.frozen x
          have HCN : Hid (∀ y, ((xs.drop k).take (j + 1)).count y = ((xs.drop k).take j).count y + (if y = x then 1 else 0)) := fun y => count_next (by rw [HXL.out]; have := HMk.out; omega) y hx.symm
          have hle : ((xs.drop k).take j).count x ≤ 60 := count_le60 (by rw [HXL.out]; omega) k j x
          obtain ⟨cx, hcx'⟩ : ∃ cx, cx = ((xs.drop k).take j).count x := ⟨_, rfl⟩
          rw [← hcx'] at hcx hle
          have HCX : Hid (cx = ((xs.drop k).take j).count x) := hcx'
          have hxi : (x : Int) < (N : Int) := by omega
          clear hx hcx'
          go_wp2
          obtain ⟨w3, hw3⟩ : ∃ z, z = wr.setCell ⟨C, x, none⟩ (.int .i64 ((cx : Int) + 1)) := ⟨_, rfl⟩
          have HR3 : Hid (w3.rowIs C 3 N (fun o => .int .i64 ((((xs.drop k).take (j + 1)).count o : Nat) : Int))) := by
            rw [hw3]
            refine (HRq.out.set x _).congr (fun o _ => ?_)
            rw [HCN.out o]
            by_cases e : o = x
            · rw [if_pos e, if_pos e, e, ← HCX.out]; simp
            · rw [if_neg e, if_neg e]; simp
          have k3 : Kp (fun z => z = C) w2 w3 := by rw [hw3]; exact kq.setCell (fun _ => rfl) _
          rw [← hw3]
          clear hw3 HRq HCN HCX hcx hfx hce hle
          obtain ⟨cx3, hcx3⟩ : ∃ z, z = ((xs.drop k).take (j + 1)).count x := ⟨_, rfl⟩
          have hx3 := HR3.out.cell hxN
          rw [← hcx3] at hx3
          have HB3 : Hid (∀ o, o < N → cx3 ≤ 2 * ((xs.drop k).take (j + 1)).count o + 2 ∧ ((xs.drop k).take (j + 1)).count o ≤ 60) := fun o ho => ⟨by rw [hcx3]; exact HSB.out k (j + 1) x o hxN ho, count_le60 (by rw [HXL.out]; omega) k (j + 1) o⟩
          clear hcx3
          go_loopg [51] N (fun gk i wo => ∃ o : Nat, o ≤ N ∧ gk = N - o ∧ i = .int .i64 o ∧ Kp (fun _ => False) w3 wo)
          case atStart => exact ⟨0, Nat.zero_le _, rfl, rfl, Kp.refl _ _⟩
          case round =>
            obtain ⟨o, ho, rfl, rfl, ko⟩ := hrel
            have hx3 := ko.cellv hx3 id
            by_cases hlto : (o : Int) < (N : Int)
            · have hco := (ko.row HR3.out id).cell (i := o) (by omega)
              obtain ⟨hb3, hb4⟩ := HB3.out o (by omega)
              obtain ⟨co, hco'⟩ : ∃ z, z = ((xs.drop k).take (j + 1)).count o := ⟨_, rfl⟩
              rw [← hco'] at hco hb3 hb4
              clear hco'
              have hw2 : wrap64 (2 * (co : Int)) = 2 * (co : Int) := wrap64_two co hb4
              have hw3 : wrap64 (2 * (co : Int) + 2) = 2 * (co : Int) + 2 := wrap64_two2 co hb4
              have dd : decide (2 * (co : Int) + 2 < (cx3 : Int)) = false := by simp; omega
              clear hb3 hb4
              go_wp2
              go_region
              go_wp2
              go_roundg (N - (o + 1))
              case rel => exact ⟨o + 1, by omega, rfl, by go_num, ko.drew⟩
              case measure => omega
            · go_wp2
              go_roundg (M - (j + 1))
              case rel => exact ⟨j + 1, by omega, rfl, by go_num, k3.trans ko (fun _ _ e => e.elim), ko.row HR3.out id⟩
              case measure => omega
        · go_wp2
          go_roundg (n - (k + 1))
          case rel => exact ⟨k + 1, by omega, rfl, by go_num, k2.trans kq (fun z hz e => by have := HCw.out; omega)⟩
          case measure => omega
    · go_wp2_with (go_at_call 36; refine (HW0.out _).mono ?_; rintro e w' ⟨rfl, rfl⟩)
      go_ret
      exact ⟨rfl, k1.trans kr (fun _ _ e => e)⟩
end Go.Proofs.Ytdhlmplpdmcjoaa
