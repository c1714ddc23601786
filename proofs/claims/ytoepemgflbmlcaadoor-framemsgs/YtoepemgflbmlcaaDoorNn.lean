/- The document's MayCmd (laid by scripts/mknn.py). -/
import Derived.Test.YtoepemgflbmlcaaDoorNm2
import Derived.Deep.DeepCutAuto
namespace Go.Proofs.YtoepemgflbmlcaaDoor
set_option linter.unusedVariables false
set_option linter.unusedSimpArgs false
open Go.RowKit Go.Deep

def codeB (k m : Int) : Bool := decide (0 ≤ k) && (decide (k ≤ 255) && (decide (0 ≤ m) && decide (m ≤ 255)))
def restB (kind node : Int) (cB : Bool) (ks : Nat) (nB : Bool) : Bool := decide (0 ≤ kind) && (decide (kind ≤ 12) && (decide (0 ≤ node) && (decide (node ≤ 15) && (cB && (decide (ks ≤ 8) && nB)))))
theorem mayR_same (c : Cs0) (zs : List Int) : (upTo 1152921504606846976 [c.id, c.blob, c.other, c.index, c.size] && restB c.kind c.node (codeB c.k c.m) c.key.size (nodesB zs)) = mayC c zs := by
  unfold mayC restB codeB nodesB
  rw [Bool.eq_iff_iff]
  have e2 : upTo 255 [c.k, c.m] = true ↔ (0 ≤ c.k ∧ c.k ≤ 255) ∧ (0 ≤ c.m ∧ c.m ≤ 255) := by unfold upTo; simp
  have e1 : upTo 15 [c.node] = true ↔ 0 ≤ c.node ∧ c.node ≤ 15 := by unfold upTo; simp
  simp only [Bool.and_eq_true, decide_eq_true_eq, e2, e1]
  constructor
  · rintro ⟨h1, h2, h3, h4, h5, ⟨h6, h7, h8, h9⟩, h10, h11, h12⟩
    exact ⟨h10, h12, h2, h3, h1, ⟨⟨h6, h7⟩, h8, h9⟩, ⟨h4, h5⟩, h11⟩
  · rintro ⟨h10, h12, h2, h3, h1, ⟨⟨h6, h7⟩, h8, h9⟩, ⟨h4, h5⟩, h11⟩
    exact ⟨h1, h2, h3, h4, h5, ⟨h6, h7, h8, h9⟩, h10, h11, h12⟩

set_option maxRecDepth 100000 in
set_option maxHeartbeats 6400000 in
theorem rmayCmd_ok (c : Cs0) (Z : Nat → Prop) (p : Option Addr) (n cap : Nat) (zs : List Int) (w : World) (h : Fl w Z p (zs.map encI)) (hn : n = zs.length) (hn9 : n ≤ 1000000000000000) (hk9 : c.key.size ≤ 9223372036854775807) :
    Calls Tryd.prog 25 #[.agg (cmdA c (.slice p n cap))] w fun e w' => e = .returned (.bool (mayC c zs)) ∧ Kp (fun _ => False) w w' := by
  rw [← mayR_same]
  have HNo : Hid (∀ u, Kp (fun _ => False) w u → Calls Tryd.prog 53 #[.slice p n cap] u fun e w' => e = .returned (.bool (nodesB zs)) ∧ w' = u) := fun u ku => rnodes_ok Z p n cap zs u (h.keep ku (fun _ _ => id)) hn hn9
  have HFi : Hid (∀ z u, Calls _ _ _ u _) := rfine_ok
  obtain ⟨nB, hnB⟩ : ∃ b, b = nodesB zs := ⟨_, rfl⟩
  rw [← hnB] at HNo ⊢
  clear h hnB
  obtain ⟨idd, kind, key, blob, other, index, node, size, sum, kk, mm⟩ := c
  dsimp only at hk9 ⊢
  obtain ⟨cB, hcB⟩ : ∃ b, b = codeB kk mm := ⟨_, rfl⟩
  have HCB : Hid (cB = codeB kk mm) := hcB
  obtain ⟨R, hR⟩ : ∃ R, R = restB kind node cB key.size nB := ⟨_, rfl⟩
  have HR : Hid (R = restB kind node cB key.size nB) := hR
  rw [← hcB, ← hR]
  obtain ⟨zs5, hz5⟩ : ∃ l, l = [idd, blob, other, index, size] := ⟨_, rfl⟩
  have HZ5 : Hid (zs5 = [idd, blob, other, index, size]) := hz5
  rw [← hz5]
  clear hcB hR hz5
  have HK0 : Hid (Kp (fun _ => False) w (w.alloc (.cells (cmdA ⟨idd, kind, key, blob, other, index, node, size, sum, kk, mm⟩ (.slice p n cap)) 27))) := (Kp.refl _ _).alloc _
  have HL0 : Hid (Lv (w.alloc (.cells (cmdA ⟨idd, kind, key, blob, other, index, node, size, sum, kk, mm⟩ (.slice p n cap)) 27)) w.heap.size (cmdA ⟨idd, kind, key, blob, other, index, node, size, sum, kk, mm⟩ (.slice p n cap)).toList) := Lv.new w _ _
  have hks : (key.size : Int) ≤ 9223372036854775807 := by omega
  have hns : (n : Int) ≤ 1000000000000000 := by omega
  clear hn hn9 hk9
  go_enter Tryd.func25, Tryd.ntmps25
  go_upto_region 1 with fail
  obtain ⟨u0, hu0⟩ : ∃ x, x = w.alloc (.cells (cmdA ⟨idd, kind, key, blob, other, index, node, size, sum, kk, mm⟩ (.slice p n cap)) 27) := ⟨_, rfl⟩
  have hu0' := hu0.symm
  simp only [cmdA] at hu0'
  rw [hu0']
  rw [← hu0] at HK0 HL0
  clear hu0 hu0'
  obtain ⟨g, hg⟩ : ∃ x, x = w.heap.size := ⟨_, rfl⟩
  rw [← hg] at HL0 ⊢
  clear hg
  have c0 : u0.cell? ⟨g, 0, none⟩ = some (.int .i64 idd) := HL0.out.cell (j := 0) rfl
  have c1 : u0.cell? ⟨g, 1, none⟩ = some (.int .i64 kind) := HL0.out.cell (j := 1) rfl
  have c2 : u0.cell? ⟨g, 2, none⟩ = some (.string key) := HL0.out.cell (j := 2) rfl
  have c3 : u0.cell? ⟨g, 3, none⟩ = some (.int .i64 blob) := HL0.out.cell (j := 3) rfl
  have c4 : u0.cell? ⟨g, 4, none⟩ = some (.int .i64 other) := HL0.out.cell (j := 4) rfl
  have c5 : u0.cell? ⟨g, 5, none⟩ = some (.int .i64 index) := HL0.out.cell (j := 5) rfl
  have c6 : u0.cell? ⟨g, 6, none⟩ = some (.int .i64 node) := HL0.out.cell (j := 6) rfl
  have c7 : u0.cell? ⟨g, 7, none⟩ = some (.int .i64 size) := HL0.out.cell (j := 7) rfl
  have c9 : u0.cell? ⟨g, 9, none⟩ = some (.int .i64 kk) := HL0.out.cell (j := 9) rfl
  have c10 : u0.cell? ⟨g, 10, none⟩ = some (.int .i64 mm) := HL0.out.cell (j := 10) rfl
  have c11 : u0.cell? ⟨g, 11, none⟩ = some (.slice p n cap) := HL0.out.cell (j := 11) rfl
  have HK1 : Hid (Kp (fun _ => False) w (u0.alloc (.cells #[.int .i64 idd, .int .i64 blob, .int .i64 other, .int .i64 index, .int .i64 size] 3))) := HK0.out.alloc _
  have HL1 : Hid (Lv (u0.alloc (.cells #[.int .i64 idd, .int .i64 blob, .int .i64 other, .int .i64 index, .int .i64 size] 3)) g (cmdA ⟨idd, kind, key, blob, other, index, node, size, sum, kk, mm⟩ (.slice p n cap)).toList) := HL0.out.keep ((Kp.refl (fun _ => False) _).alloc _) id
  have HL2 : Hid (Lv (u0.alloc (.cells #[.int .i64 idd, .int .i64 blob, .int .i64 other, .int .i64 index, .int .i64 size] 3)) u0.heap.size [.int .i64 idd, .int .i64 blob, .int .i64 other, .int .i64 index, .int .i64 size]) := Lv.new u0 #[.int .i64 idd, .int .i64 blob, .int .i64 other, .int .i64 index, .int .i64 size] _
  go_upto_region 2 with fail
  obtain ⟨u1, hu1⟩ : ∃ x, x = u0.alloc (.cells #[.int .i64 idd, .int .i64 blob, .int .i64 other, .int .i64 index, .int .i64 size] 3) := ⟨_, rfl⟩
  rw [← hu1] at HK1 HL1 HL2 ⊢
  obtain ⟨g5, hg5⟩ : ∃ x, x = u0.heap.size := ⟨_, rfl⟩
  rw [← hg5] at HL2 ⊢
  clear hu1 hg5 c0 c1 c2 c3 c4 c5 c6 c7 c9 c10 c11
  have d1 : u1.cell? ⟨g, 1, none⟩ = some (.int .i64 kind) := HL1.out.cell (j := 1) rfl
  have d2 : u1.cell? ⟨g, 2, none⟩ = some (.string key) := HL1.out.cell (j := 2) rfl
  have d6 : u1.cell? ⟨g, 6, none⟩ = some (.int .i64 node) := HL1.out.cell (j := 6) rfl
  have d9 : u1.cell? ⟨g, 9, none⟩ = some (.int .i64 kk) := HL1.out.cell (j := 9) rfl
  have d10 : u1.cell? ⟨g, 10, none⟩ = some (.int .i64 mm) := HL1.out.cell (j := 10) rfl
  have d11 : u1.cell? ⟨g, 11, none⟩ = some (.slice p n cap) := HL1.out.cell (j := 11) rfl
  have HC5 : Hid (∀ (j : Nat) (z : Int), zs5[j]? = some z → u1.cell? ⟨g5, j, none⟩ = some (.int .i64 z)) := fun j z hz => by
    rw [HZ5.out] at hz
    exact HL2.out.cell (by
      have := congrArg (Option.map (Value.int .i64)) hz
      rw [← List.getElem?_map] at this
      exact this)
  have HL5 : Hid (zs5.length = 5) := by rw [HZ5.out]; rfl
  clear HZ5
  go_loopg [18] 5 (fun gk iv wz => ∃ k : Nat, k ≤ 5 ∧ gk = 5 - k ∧ iv = .int .i64 k ∧ u1 = wz ∧ Hid (∀ (i : Nat) (z : Int), i < k → zs5[i]? = some z → 0 ≤ z ∧ z ≤ 1152921504606846976))
  case atStart => exact ⟨0, Nat.zero_le _, rfl, rfl, rfl, fun i z hi => absurd hi (Nat.not_lt_zero _)⟩
  case round =>
    obtain ⟨k, hk, rfl, rfl, rfl, HT⟩ := hrel
    by_cases hlt : (k : Int) < 5
    · obtain ⟨z, hz⟩ : ∃ z, zs5[k]? = some z := ⟨_, List.getElem?_eq_getElem (by have := HL5.out; omega)⟩
      have hc' := HC5.out k z hz
      have HZ : Hid (zs5[k]? = some z) := hz
      clear hz
      go_wp2_with fail
      refine (HFi.out z u1).mono ?_
      rintro e9 w9 ⟨rfl, hw9⟩
      have hw8 := hw9.symm
      subst hw8
      clear hw9
      obtain ⟨fB, hfB⟩ : ∃ b, b = fineB z := ⟨_, rfl⟩
      have HFB : Hid (fB = fineB z) := hfB
      rw [← hfB]
      clear hfB
      cases fB with
      | false =>
        have HV : Hid (upTo 1152921504606846976 zs5 = false) := by
          show _ = _
          cases q : upTo 1152921504606846976 zs5 with
          | false => rfl
          | true =>
            have h1 := upTo_at.1 q k z HZ.out
            have h2 := HFB.out
            unfold fineB at h2
            rw [decide_eq_true h1] at h2
            cases h2
        go_wp2_with fail
        go_ret
        exact ⟨by rw [HV.out]; rfl, HK1.out⟩
      | true =>
        have HO : Hid (0 ≤ z ∧ z ≤ 1152921504606846976) := (by
          have h2 := HFB.out.symm
          unfold fineB at h2
          have h3 : 0 ≤ z ∧ z ≤ 1152921504606846976 := of_decide_eq_true h2
          exact h3)
        go_wp2_with fail
        go_roundg (5 - (k + 1))
        case rel =>
          refine ⟨k + 1, by omega, rfl, by first | rfl | go_num, rfl, fun i y hi hy => ?_⟩
          by_cases e : i = k
          · subst e
            rw [HZ.out] at hy
            cases hy
            exact HO.out
          · exact HT.out i y (by omega) hy
        case measure => omega
    · have HU : Hid (upTo 1152921504606846976 zs5 = true) := upTo_at.2 (fun i z hz => HT.out i z (by have := HL5.out; have := (List.getElem?_eq_some_iff.1 hz).1; omega) hz)
      clear HT HC5 HL5
      go_upto_region 7 with fail
      go_cut [5] (fun v wz => v = .bool cB ∧ u1 = wz)
      case first =>
        by_cases q0 : (0 : Int) ≤ kk
        · by_cases q1 : kk ≤ 255
          · by_cases q2 : (0 : Int) ≤ mm
            · by_cases q3 : mm ≤ 255
              · have HV : Hid (cB = true) := by
                  show _ = _
                  rw [HCB.out]
                  unfold codeB
                  rw [decide_eq_true (show (0 : Int) ≤ kk from by omega)]
                  rw [decide_eq_true (show kk ≤ 255 from by omega)]
                  rw [decide_eq_true (show (0 : Int) ≤ mm from by omega)]
                  rw [decide_eq_true (show mm ≤ 255 from by omega)]
                  simp
                go_wp2_with fail
                go_meet
                exact ⟨by rw [HV.out], rfl⟩
              · have HV : Hid (cB = false) := by
                  show _ = _
                  rw [HCB.out]
                  unfold codeB
                  rw [decide_eq_true (show (0 : Int) ≤ kk from by omega)]
                  rw [decide_eq_true (show kk ≤ 255 from by omega)]
                  rw [decide_eq_true (show (0 : Int) ≤ mm from by omega)]
                  rw [decide_eq_false (show ¬ mm ≤ 255 from by omega)]
                  simp
                go_wp2_with fail
                go_meet
                exact ⟨by rw [HV.out], rfl⟩
            · have HV : Hid (cB = false) := by
                show _ = _
                rw [HCB.out]
                unfold codeB
                rw [decide_eq_true (show (0 : Int) ≤ kk from by omega)]
                rw [decide_eq_true (show kk ≤ 255 from by omega)]
                rw [decide_eq_false (show ¬ (0 : Int) ≤ mm from by omega)]
                simp
              go_wp2_with fail
              go_meet
              exact ⟨by rw [HV.out], rfl⟩
          · have HV : Hid (cB = false) := by
              show _ = _
              rw [HCB.out]
              unfold codeB
              rw [decide_eq_true (show (0 : Int) ≤ kk from by omega)]
              rw [decide_eq_false (show ¬ kk ≤ 255 from by omega)]
              simp
            go_wp2_with fail
            go_meet
            exact ⟨by rw [HV.out], rfl⟩
        · have HV : Hid (cB = false) := by
            show _ = _
            rw [HCB.out]
            unfold codeB
            rw [decide_eq_false (show ¬ (0 : Int) ≤ kk from by omega)]
            simp
          go_wp2_with fail
          go_meet
          exact ⟨by rw [HV.out], rfl⟩
      case rest =>
        obtain ⟨rfl, rfl⟩ := hcut
        clear HCB
        by_cases r0 : (0 : Int) ≤ kind
        · by_cases r1 : kind ≤ 12
          · by_cases r2 : (0 : Int) ≤ node
            · by_cases r3 : node ≤ 15
              · cases cB with
                | true =>
                  by_cases r5 : (key.size : Int) ≤ 8
                  · go_wp2_with fail
                    refine (HNo.out u1 HK1.out).mono ?_
                    rintro e9 w9 ⟨rfl, hw9⟩
                    have hw8 := hw9.symm
                    subst hw8
                    clear hw9
                    cases nB with
                    | true =>
                      have HV : Hid (R = true) := by
                        show _ = _
                        rw [HR.out]
                        unfold restB
                        rw [decide_eq_true (show (0 : Int) ≤ kind from by omega)]
                        rw [decide_eq_true (show kind ≤ 12 from by omega)]
                        rw [decide_eq_true (show (0 : Int) ≤ node from by omega)]
                        rw [decide_eq_true (show node ≤ 15 from by omega)]
                        rw [decide_eq_true (show key.size ≤ 8 from by omega)]
                        simp
                      clear HR
                      go_wp2_with fail
                      go_ret
                      exact ⟨by rw [HU.out, HV.out]; rfl, HK1.out⟩
                    | false =>
                      have HV : Hid (R = false) := by
                        show _ = _
                        rw [HR.out]
                        unfold restB
                        rw [decide_eq_true (show (0 : Int) ≤ kind from by omega)]
                        rw [decide_eq_true (show kind ≤ 12 from by omega)]
                        rw [decide_eq_true (show (0 : Int) ≤ node from by omega)]
                        rw [decide_eq_true (show node ≤ 15 from by omega)]
                        rw [decide_eq_true (show key.size ≤ 8 from by omega)]
                        simp
                      clear HR
                      go_wp2_with fail
                      go_ret
                      exact ⟨by rw [HU.out, HV.out]; rfl, HK1.out⟩
                  · have HV : Hid (R = false) := by
                      show _ = _
                      rw [HR.out]
                      unfold restB
                      rw [decide_eq_true (show (0 : Int) ≤ kind from by omega)]
                      rw [decide_eq_true (show kind ≤ 12 from by omega)]
                      rw [decide_eq_true (show (0 : Int) ≤ node from by omega)]
                      rw [decide_eq_true (show node ≤ 15 from by omega)]
                      rw [decide_eq_false (show ¬ key.size ≤ 8 from by omega)]
                      simp
                    clear HR
                    go_wp2_with fail
                    go_ret
                    exact ⟨by rw [HU.out, HV.out]; rfl, HK1.out⟩
                | false =>
                  have HV : Hid (R = false) := by
                    show _ = _
                    rw [HR.out]
                    unfold restB
                    rw [decide_eq_true (show (0 : Int) ≤ kind from by omega)]
                    rw [decide_eq_true (show kind ≤ 12 from by omega)]
                    rw [decide_eq_true (show (0 : Int) ≤ node from by omega)]
                    rw [decide_eq_true (show node ≤ 15 from by omega)]
                    simp
                  clear HR
                  go_wp2_with fail
                  go_ret
                  exact ⟨by rw [HU.out, HV.out]; rfl, HK1.out⟩
              · have HV : Hid (R = false) := by
                  show _ = _
                  rw [HR.out]
                  unfold restB
                  rw [decide_eq_true (show (0 : Int) ≤ kind from by omega)]
                  rw [decide_eq_true (show kind ≤ 12 from by omega)]
                  rw [decide_eq_true (show (0 : Int) ≤ node from by omega)]
                  rw [decide_eq_false (show ¬ node ≤ 15 from by omega)]
                  simp
                clear HR
                go_wp2_with fail
                go_ret
                exact ⟨by rw [HU.out, HV.out]; rfl, HK1.out⟩
            · have HV : Hid (R = false) := by
                show _ = _
                rw [HR.out]
                unfold restB
                rw [decide_eq_true (show (0 : Int) ≤ kind from by omega)]
                rw [decide_eq_true (show kind ≤ 12 from by omega)]
                rw [decide_eq_false (show ¬ (0 : Int) ≤ node from by omega)]
                simp
              clear HR
              go_wp2_with fail
              go_ret
              exact ⟨by rw [HU.out, HV.out]; rfl, HK1.out⟩
          · have HV : Hid (R = false) := by
              show _ = _
              rw [HR.out]
              unfold restB
              rw [decide_eq_true (show (0 : Int) ≤ kind from by omega)]
              rw [decide_eq_false (show ¬ kind ≤ 12 from by omega)]
              simp
            clear HR
            go_wp2_with fail
            go_ret
            exact ⟨by rw [HU.out, HV.out]; rfl, HK1.out⟩
        · have HV : Hid (R = false) := by
            show _ = _
            rw [HR.out]
            unfold restB
            rw [decide_eq_false (show ¬ (0 : Int) ≤ kind from by omega)]
            simp
          clear HR
          go_wp2_with fail
          go_ret
          exact ⟨by rw [HU.out, HV.out]; rfl, HK1.out⟩
end Go.Proofs.YtoepemgflbmlcaaDoor
