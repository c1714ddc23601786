/- frame.mayCmd (laid by scripts/mknh.py). -/
import Derived.Test.YtippipeebkkghaaGreatDoorNg
namespace Go.Proofs.YtippipeebkkghaaGreatDoor
set_option linter.unusedVariables false
set_option linter.unusedSimpArgs false
open Go.RowKit Go.Deep

/-- a command that may be -/
def mayC (c : Cs0) (zs : List Int) : Bool := decide (c.key.size ≤ 8) && (decide (zs.length ≤ 255) && (decide (0 ≤ c.kind) && (decide (c.kind ≤ 12) && (upTo 1152921504606846976 [c.id, c.blob, c.other, c.index, c.size] && (upTo 255 [c.k, c.m] && (upTo 15 [c.node] && upTo 15 zs))))))
/-- allUpTo of a list that was made just now -/
theorem allUpTo_new (most : Int) (zs : List Int) (n : Nat) (hn : n = zs.length) (hn9 : n ≤ 1000) (u : World) : Calls Tryz.prog 78 #[.int .i64 most, .slice (some ⟨u.heap.size, 0, none⟩) n n] (u.alloc (.cells (zs.map encI).toArray 3)) fun e w' => e = .returned (.bool (upTo most zs)) ∧ Kp (fun _ => False) u w' := by
  have hl := Lv.new u (zs.map encI).toArray 3
  refine (allUpTo_ok (fun _ => True) most (some ⟨u.heap.size, 0, none⟩) n n zs _ (fun j v hj => ⟨_, _, rfl, trivial, ?_⟩) hn (by omega)).mono ?_
  · rw [Nat.zero_add]
    exact hl.cell hj
  · rintro e w' ⟨rfl, rfl⟩
    exact ⟨rfl, (Kp.refl _ _).alloc _⟩

set_option maxRecDepth 100000 in
set_option maxHeartbeats 6400000 in
theorem mayCmd_ok (c : Cs0) (Z : Nat → Prop) (p : Option Addr) (n cap : Nat) (zs : List Int) (w : World) (h : Fl w Z p (zs.map encI)) (hn : n = zs.length) (hn9 : n ≤ 1000000000000000) (hk9 : c.key.size ≤ 9223372036854775807) :
    Calls Tryz.prog 46 #[.agg (cmdA c (.slice p n cap))] w fun e w' => e = .returned (.bool (mayC c zs)) ∧ Kp (fun _ => False) w w' := by
  have HU5 : Hid (∀ u : World, Calls Tryz.prog 78 #[.int .i64 1152921504606846976, .slice (some ⟨u.heap.size, 0, none⟩) 5 5] (u.alloc (.cells #[.int .i64 c.id, .int .i64 c.blob, .int .i64 c.other, .int .i64 c.index, .int .i64 c.size] 3)) fun e w' => e = .returned (.bool (upTo 1152921504606846976 [c.id, c.blob, c.other, c.index, c.size])) ∧ Kp (fun _ => False) u w') := fun u => allUpTo_new 1152921504606846976 [c.id, c.blob, c.other, c.index, c.size] 5 rfl (by decide) u
  have HU2 : Hid (∀ u : World, Calls Tryz.prog 78 #[.int .i64 255, .slice (some ⟨u.heap.size, 0, none⟩) 2 2] (u.alloc (.cells #[.int .i64 c.k, .int .i64 c.m] 3)) fun e w' => e = .returned (.bool (upTo 255 [c.k, c.m])) ∧ Kp (fun _ => False) u w') := fun u => allUpTo_new 255 [c.k, c.m] 2 rfl (by decide) u
  have HU1 : Hid (∀ u : World, Calls Tryz.prog 78 #[.int .i64 15, .slice (some ⟨u.heap.size, 0, none⟩) 1 1] (u.alloc (.cells #[.int .i64 c.node] 3)) fun e w' => e = .returned (.bool (upTo 15 [c.node])) ∧ Kp (fun _ => False) u w') := fun u => allUpTo_new 15 [c.node] 1 rfl (by decide) u
  have HUz : Hid (n ≤ 255 → ∀ u, Kp (fun _ => False) w u → Calls Tryz.prog 78 #[.int .i64 15, .slice p n cap] u fun e w' => e = .returned (.bool (upTo 15 zs)) ∧ w' = u) := fun h9 u ku => allUpTo_ok Z 15 p n cap zs u (h.keep ku (fun _ _ => id)) hn (by omega)
  obtain ⟨R, hR⟩ : ∃ R, R = mayC c zs := ⟨_, rfl⟩
  have HR : Hid (R = mayC c zs) := hR
  have HN : Hid (n = zs.length) := hn
  rw [← hR]
  obtain ⟨b5, hb5⟩ : ∃ b, b = upTo 1152921504606846976 [c.id, c.blob, c.other, c.index, c.size] := ⟨_, rfl⟩
  obtain ⟨b2, hb2⟩ : ∃ b, b = upTo 255 [c.k, c.m] := ⟨_, rfl⟩
  obtain ⟨b1, hb1⟩ : ∃ b, b = upTo 15 [c.node] := ⟨_, rfl⟩
  obtain ⟨bz, hbz⟩ : ∃ b, b = upTo 15 zs := ⟨_, rfl⟩
  have HRR : Hid (R = (decide (c.key.size ≤ 8) && (decide (n ≤ 255) && (decide (0 ≤ c.kind) && (decide (c.kind ≤ 12) && (b5 && (b2 && (b1 && bz)))))))) := by show _ = _; rw [hR, hb5, hb2, hb1, hbz, hn]; rfl
  rw [← hb5] at HU5
  rw [← hb2] at HU2
  rw [← hb1] at HU1
  rw [← hbz] at HUz
  clear h hn hR hb5 hb2 hb1 hbz HR
  obtain ⟨idd, kind, key, blob, other, index, node, size, sum, kk, mm⟩ := c
  dsimp only at HRR hk9 HU5 HU2 HU1
  have HK0 : Hid (Kp (fun _ => False) w (w.alloc (.cells (cmdA ⟨idd, kind, key, blob, other, index, node, size, sum, kk, mm⟩ (.slice p n cap)) 31))) := (Kp.refl _ _).alloc _
  have HL0 : Hid (Lv (w.alloc (.cells (cmdA ⟨idd, kind, key, blob, other, index, node, size, sum, kk, mm⟩ (.slice p n cap)) 31)) w.heap.size (cmdA ⟨idd, kind, key, blob, other, index, node, size, sum, kk, mm⟩ (.slice p n cap)).toList) := Lv.new w _ _
  have hks : (key.size : Int) ≤ 9223372036854775807 := by omega
  have hns : (n : Int) ≤ 1000000000000000 := by omega
  go_enter Tryz.func46, Tryz.ntmps46
  go_upto_region 1 with fail
  obtain ⟨u0, hu0⟩ : ∃ x, x = w.alloc (.cells (cmdA ⟨idd, kind, key, blob, other, index, node, size, sum, kk, mm⟩ (.slice p n cap)) 31) := ⟨_, rfl⟩
  have hu0' := hu0.symm
  simp only [cmdA] at hu0'
  rw [hu0']
  rw [← hu0] at HK0 HL0
  clear hu0 hu0'
  obtain ⟨g, hg⟩ : ∃ x, x = w.heap.size := ⟨_, rfl⟩
  rw [← hg] at HL0 ⊢
  clear hg
  have c0 : u0.cell? ⟨g, 0, none⟩ = some (.int .i64 idd) := HL0.out.cell (j := 0) rfl
  have c1 : u0.cell? ⟨g, 1, none⟩ = some (.int .i64 kind) := HL0.out.cell (j := 1) rfl
  have c2 : u0.cell? ⟨g, 2, none⟩ = some (.string key) := HL0.out.cell (j := 2) rfl
  have c3 : u0.cell? ⟨g, 3, none⟩ = some (.int .i64 blob) := HL0.out.cell (j := 3) rfl
  have c4 : u0.cell? ⟨g, 4, none⟩ = some (.int .i64 other) := HL0.out.cell (j := 4) rfl
  have c5 : u0.cell? ⟨g, 5, none⟩ = some (.int .i64 index) := HL0.out.cell (j := 5) rfl
  have c6 : u0.cell? ⟨g, 6, none⟩ = some (.int .i64 node) := HL0.out.cell (j := 6) rfl
  have c7 : u0.cell? ⟨g, 7, none⟩ = some (.int .i64 size) := HL0.out.cell (j := 7) rfl
  have c9 : u0.cell? ⟨g, 9, none⟩ = some (.int .i64 kk) := HL0.out.cell (j := 9) rfl
  have c10 : u0.cell? ⟨g, 10, none⟩ = some (.int .i64 mm) := HL0.out.cell (j := 10) rfl
  have c11 : u0.cell? ⟨g, 11, none⟩ = some (.slice p n cap) := HL0.out.cell (j := 11) rfl
  by_cases q0 : (key.size : Int) ≤ 8
  · by_cases q1 : (n : Int) ≤ 255
    · by_cases q2 : (0 : Int) ≤ kind
      · by_cases q3 : kind ≤ 12
        · go_wp2_with fail
          refine (HU5.out u0).mono ?_
          rintro e9 v1 ⟨rfl, k9⟩
          have HKa : Hid (Kp (fun _ => False) w v1) := HK0.out.trans k9 (fun _ _ e => e)
          have HLa : Hid (Lv v1 g _) := HL0.out.keep k9 id
          have d6 : v1.cell? ⟨g, 6, none⟩ = some (.int .i64 node) := HLa.out.cell (j := 6) rfl
          have d9 : v1.cell? ⟨g, 9, none⟩ = some (.int .i64 kk) := HLa.out.cell (j := 9) rfl
          have d10 : v1.cell? ⟨g, 10, none⟩ = some (.int .i64 mm) := HLa.out.cell (j := 10) rfl
          have d11 : v1.cell? ⟨g, 11, none⟩ = some (.slice p n cap) := HLa.out.cell (j := 11) rfl
          clear k9
          cases b5 with
          | true =>
            go_wp2_with fail
            refine (HU2.out v1).mono ?_
            rintro e9 v2 ⟨rfl, k9⟩
            have HKb : Hid (Kp (fun _ => False) w v2) := HKa.out.trans k9 (fun _ _ e => e)
            have HLb : Hid (Lv v2 g _) := HLa.out.keep k9 id
            have f6 : v2.cell? ⟨g, 6, none⟩ = some (.int .i64 node) := HLb.out.cell (j := 6) rfl
            have f11 : v2.cell? ⟨g, 11, none⟩ = some (.slice p n cap) := HLb.out.cell (j := 11) rfl
            clear k9
            cases b2 with
            | true =>
              go_wp2_with fail
              refine (HU1.out v2).mono ?_
              rintro e9 v3 ⟨rfl, k9⟩
              have HKc : Hid (Kp (fun _ => False) w v3) := HKb.out.trans k9 (fun _ _ e => e)
              have HLc : Hid (Lv v3 g _) := HLb.out.keep k9 id
              have i11 : v3.cell? ⟨g, 11, none⟩ = some (.slice p n cap) := HLc.out.cell (j := 11) rfl
              clear k9
              cases b1 with
              | true =>
                go_wp2_with fail
                refine (HUz.out (by omega) _ HKc.out).mono ?_
                rintro e9 v4 ⟨rfl, hv4⟩
                have hv5 := hv4.symm
                subst hv5
                clear hv4
                cases bz with
                | true =>
                  have HV : Hid (R = true) := by
                    show _ = _
                    rw [HRR.out]
                    rw [decide_eq_true (show key.size ≤ 8 from by omega)]
                    rw [decide_eq_true (show n ≤ 255 from by omega)]
                    rw [decide_eq_true (show (0 : Int) ≤ kind from by omega)]
                    rw [decide_eq_true (show kind ≤ 12 from by omega)]
                    simp
                  clear HRR
                  go_wp2_with fail
                  go_ret
                  exact ⟨by rw [HV.out]; rfl, HKc.out⟩
                | false =>
                  have HV : Hid (R = false) := by
                    show _ = _
                    rw [HRR.out]
                    rw [decide_eq_true (show key.size ≤ 8 from by omega)]
                    rw [decide_eq_true (show n ≤ 255 from by omega)]
                    rw [decide_eq_true (show (0 : Int) ≤ kind from by omega)]
                    rw [decide_eq_true (show kind ≤ 12 from by omega)]
                    simp
                  clear HRR
                  go_wp2_with fail
                  go_ret
                  exact ⟨by rw [HV.out]; rfl, HKc.out⟩
              | false =>
                have HV : Hid (R = false) := by
                  show _ = _
                  rw [HRR.out]
                  rw [decide_eq_true (show key.size ≤ 8 from by omega)]
                  rw [decide_eq_true (show n ≤ 255 from by omega)]
                  rw [decide_eq_true (show (0 : Int) ≤ kind from by omega)]
                  rw [decide_eq_true (show kind ≤ 12 from by omega)]
                  simp
                clear HRR
                go_wp2_with fail
                go_ret
                exact ⟨by rw [HV.out]; rfl, HKc.out⟩
            | false =>
              have HV : Hid (R = false) := by
                show _ = _
                rw [HRR.out]
                rw [decide_eq_true (show key.size ≤ 8 from by omega)]
                rw [decide_eq_true (show n ≤ 255 from by omega)]
                rw [decide_eq_true (show (0 : Int) ≤ kind from by omega)]
                rw [decide_eq_true (show kind ≤ 12 from by omega)]
                simp
              clear HRR
              go_wp2_with fail
              go_ret
              exact ⟨by rw [HV.out]; rfl, HKb.out⟩
          | false =>
            have HV : Hid (R = false) := by
              show _ = _
              rw [HRR.out]
              rw [decide_eq_true (show key.size ≤ 8 from by omega)]
              rw [decide_eq_true (show n ≤ 255 from by omega)]
              rw [decide_eq_true (show (0 : Int) ≤ kind from by omega)]
              rw [decide_eq_true (show kind ≤ 12 from by omega)]
              simp
            clear HRR
            go_wp2_with fail
            go_ret
            exact ⟨by rw [HV.out]; rfl, HKa.out⟩
        · have HV : Hid (R = false) := by
            show _ = _
            rw [HRR.out]
            rw [decide_eq_true (show key.size ≤ 8 from by omega)]
            rw [decide_eq_true (show n ≤ 255 from by omega)]
            rw [decide_eq_true (show (0 : Int) ≤ kind from by omega)]
            rw [decide_eq_false (show ¬ kind ≤ 12 from by omega)]
            simp
          clear HRR
          go_wp2_with fail
          go_ret
          exact ⟨by rw [HV.out]; rfl, HK0.out⟩
      · have HV : Hid (R = false) := by
          show _ = _
          rw [HRR.out]
          rw [decide_eq_true (show key.size ≤ 8 from by omega)]
          rw [decide_eq_true (show n ≤ 255 from by omega)]
          rw [decide_eq_false (show ¬ (0 : Int) ≤ kind from by omega)]
          simp
        clear HRR
        go_wp2_with fail
        go_ret
        exact ⟨by rw [HV.out]; rfl, HK0.out⟩
    · have HV : Hid (R = false) := by
        show _ = _
        rw [HRR.out]
        rw [decide_eq_true (show key.size ≤ 8 from by omega)]
        rw [decide_eq_false (show ¬ n ≤ 255 from by omega)]
        simp
      clear HRR
      go_wp2_with fail
      go_ret
      exact ⟨by rw [HV.out]; rfl, HK0.out⟩
  · have HV : Hid (R = false) := by
      show _ = _
      rw [HRR.out]
      rw [decide_eq_false (show ¬ key.size ≤ 8 from by omega)]
      simp
    clear HRR
    go_wp2_with fail
    go_ret
    exact ⟨by rw [HV.out]; rfl, HK0.out⟩
end Go.Proofs.YtippipeebkkghaaGreatDoor
