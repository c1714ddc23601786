/- Texts of this proof, joined: Nh, Ok. -/
import Derived.Test.YtoepemgflbmlcaaDoorMgAQ
import Derived.Test.YtoepemgflbmlcaaDoorMgAO
/- frame.mayCmd (laid by scripts/mknh.py). -/
namespace Go.Proofs.YtoepemgflbmlcaaDoor
set_option linter.unusedVariables false
set_option linter.unusedSimpArgs false
open Go.RowKit Go.Deep

/-- a command that may be -/
def mayC (c : Cs0) (zs : List Int) : Bool := decide (c.key.size ≤ 8) && (decide (zs.length ≤ 255) && (decide (0 ≤ c.kind) && (decide (c.kind ≤ 12) && (upTo 1152921504606846976 [c.id, c.blob, c.other, c.index, c.size] && (upTo 255 [c.k, c.m] && (upTo 15 [c.node] && upTo 15 zs))))))
/-- allUpTo of a list that was made just now -/
theorem allUpTo_new (most : Int) (zs : List Int) (n : Nat) (hn : n = zs.length) (hn9 : n ≤ 1000) (u : World) : Calls Tryd.prog 51 #[.int .i64 most, .slice (some ⟨u.heap.size, 0, none⟩) n n] (u.alloc (.cells (zs.map encI).toArray 3)) fun e w' => e = .returned (.bool (upTo most zs)) ∧ Kp (fun _ => False) u w' := by
  have hl := Lv.new u (zs.map encI).toArray 3
  refine (allUpTo_ok (fun _ => True) most (some ⟨u.heap.size, 0, none⟩) n n zs _ (fun j v hj => ⟨_, _, rfl, trivial, ?_⟩) hn (by omega)).mono ?_
  · rw [Nat.zero_add]
    exact hl.cell hj
  · rintro e w' ⟨rfl, rfl⟩
    exact ⟨rfl, (Kp.refl _ _).alloc _⟩

set_option maxRecDepth 100000 in
set_option maxHeartbeats 6400000 in
theorem mayCmd_ok (c : Cs0) (Z : Nat → Prop) (p : Option Addr) (n cap : Nat) (zs : List Int) (w : World) (h : Fl w Z p (zs.map encI)) (hn : n = zs.length) (hn9 : n ≤ 1000000000000000) (hk9 : c.key.size ≤ 9223372036854775807) :
    Calls Tryd.prog 23 #[.agg (cmdA c (.slice p n cap))] w fun e w' => e = .returned (.bool (mayC c zs)) ∧ Kp (fun _ => False) w w' := by
  have HU5 : Hid (∀ u : World, Calls Tryd.prog 51 #[.int .i64 1152921504606846976, .slice (some ⟨u.heap.size, 0, none⟩) 5 5] (u.alloc (.cells #[.int .i64 c.id, .int .i64 c.blob, .int .i64 c.other, .int .i64 c.index, .int .i64 c.size] 3)) fun e w' => e = .returned (.bool (upTo 1152921504606846976 [c.id, c.blob, c.other, c.index, c.size])) ∧ Kp (fun _ => False) u w') := fun u => allUpTo_new 1152921504606846976 [c.id, c.blob, c.other, c.index, c.size] 5 rfl (by decide) u
  have HU2 : Hid (∀ u : World, Calls Tryd.prog 51 #[.int .i64 255, .slice (some ⟨u.heap.size, 0, none⟩) 2 2] (u.alloc (.cells #[.int .i64 c.k, .int .i64 c.m] 3)) fun e w' => e = .returned (.bool (upTo 255 [c.k, c.m])) ∧ Kp (fun _ => False) u w') := fun u => allUpTo_new 255 [c.k, c.m] 2 rfl (by decide) u
  have HU1 : Hid (∀ u : World, Calls Tryd.prog 51 #[.int .i64 15, .slice (some ⟨u.heap.size, 0, none⟩) 1 1] (u.alloc (.cells #[.int .i64 c.node] 3)) fun e w' => e = .returned (.bool (upTo 15 [c.node])) ∧ Kp (fun _ => False) u w') := fun u => allUpTo_new 15 [c.node] 1 rfl (by decide) u
  have HUz : Hid (n ≤ 255 → ∀ u, Kp (fun _ => False) w u → Calls Tryd.prog 51 #[.int .i64 15, .slice p n cap] u fun e w' => e = .returned (.bool (upTo 15 zs)) ∧ w' = u) := fun h9 u ku => allUpTo_ok Z 15 p n cap zs u (h.keep ku (fun _ _ => id)) hn (by omega)
  obtain ⟨R, hR⟩ : ∃ R, R = mayC c zs := ⟨_, rfl⟩
  have HR : Hid (R = mayC c zs) := hR
  have HN : Hid (n = zs.length) := hn
  rw [← hR]
  obtain ⟨b5, hb5⟩ : ∃ b, b = upTo 1152921504606846976 [c.id, c.blob, c.other, c.index, c.size] := ⟨_, rfl⟩
  obtain ⟨b2, hb2⟩ : ∃ b, b = upTo 255 [c.k, c.m] := ⟨_, rfl⟩
  obtain ⟨b1, hb1⟩ : ∃ b, b = upTo 15 [c.node] := ⟨_, rfl⟩
  obtain ⟨bz, hbz⟩ : ∃ b, b = upTo 15 zs := ⟨_, rfl⟩
  have HRR : Hid (R = (decide (c.key.size ≤ 8) && (decide (n ≤ 255) && (decide (0 ≤ c.kind) && (decide (c.kind ≤ 12) && (b5 && (b2 && (b1 && bz)))))))) := by show _ = _; rw [hR, hb5, hb2, hb1, hbz, hn]; rfl
  rw [← hb5] at HU5
  rw [← hb2] at HU2
  rw [← hb1] at HU1
  rw [← hbz] at HUz
  clear h hn hR hb5 hb2 hb1 hbz HR
  obtain ⟨idd, kind, key, blob, other, index, node, size, sum, kk, mm⟩ := c
  dsimp only at HRR hk9 HU5 HU2 HU1
  have HK0 : Hid (Kp (fun _ => False) w (w.alloc (.cells (cmdA ⟨idd, kind, key, blob, other, index, node, size, sum, kk, mm⟩ (.slice p n cap)) 27))) := (Kp.refl _ _).alloc _
  have HL0 : Hid (Lv (w.alloc (.cells (cmdA ⟨idd, kind, key, blob, other, index, node, size, sum, kk, mm⟩ (.slice p n cap)) 27)) w.heap.size (cmdA ⟨idd, kind, key, blob, other, index, node, size, sum, kk, mm⟩ (.slice p n cap)).toList) := Lv.new w _ _
  have hks : (key.size : Int) ≤ 9223372036854775807 := by omega
  have hns : (n : Int) ≤ 1000000000000000 := by omega
  go_enter Tryd.func23, Tryd.ntmps23
  go_upto_region 1 with fail
  obtain ⟨u0, hu0⟩ : ∃ x, x = w.alloc (.cells (cmdA ⟨idd, kind, key, blob, other, index, node, size, sum, kk, mm⟩ (.slice p n cap)) 27) := ⟨_, rfl⟩
  have hu0' := hu0.symm
  simp only [cmdA] at hu0'
  rw [hu0']
  rw [← hu0] at HK0 HL0
  clear hu0 hu0'
  obtain ⟨g, hg⟩ : ∃ x, x = w.heap.size := ⟨_, rfl⟩
  rw [← hg] at HL0 ⊢
  clear hg
  have c0 : u0.cell? ⟨g, 0, none⟩ = some (.int .i64 idd) := HL0.out.cell (j := 0) rfl
  have c1 : u0.cell? ⟨g, 1, none⟩ = some (.int .i64 kind) := HL0.out.cell (j := 1) rfl
  have c2 : u0.cell? ⟨g, 2, none⟩ = some (.string key) := HL0.out.cell (j := 2) rfl
  have c3 : u0.cell? ⟨g, 3, none⟩ = some (.int .i64 blob) := HL0.out.cell (j := 3) rfl
  have c4 : u0.cell? ⟨g, 4, none⟩ = some (.int .i64 other) := HL0.out.cell (j := 4) rfl
  have c5 : u0.cell? ⟨g, 5, none⟩ = some (.int .i64 index) := HL0.out.cell (j := 5) rfl
  have c6 : u0.cell? ⟨g, 6, none⟩ = some (.int .i64 node) := HL0.out.cell (j := 6) rfl
  have c7 : u0.cell? ⟨g, 7, none⟩ = some (.int .i64 size) := HL0.out.cell (j := 7) rfl
  have c9 : u0.cell? ⟨g, 9, none⟩ = some (.int .i64 kk) := HL0.out.cell (j := 9) rfl
  have c10 : u0.cell? ⟨g, 10, none⟩ = some (.int .i64 mm) := HL0.out.cell (j := 10) rfl
  have c11 : u0.cell? ⟨g, 11, none⟩ = some (.slice p n cap) := HL0.out.cell (j := 11) rfl
  by_cases q0 : (key.size : Int) ≤ 8
  · by_cases q1 : (n : Int) ≤ 255
    · by_cases q2 : (0 : Int) ≤ kind
      · by_cases q3 : kind ≤ 12
        · go_wp2_with fail
          refine (HU5.out u0).mono ?_
          rintro e9 v1 ⟨rfl, k9⟩
          have HKa : Hid (Kp (fun _ => False) w v1) := HK0.out.trans k9 (fun _ _ e => e)
          have HLa : Hid (Lv v1 g _) := HL0.out.keep k9 id
          have d6 : v1.cell? ⟨g, 6, none⟩ = some (.int .i64 node) := HLa.out.cell (j := 6) rfl
          have d9 : v1.cell? ⟨g, 9, none⟩ = some (.int .i64 kk) := HLa.out.cell (j := 9) rfl
          have d10 : v1.cell? ⟨g, 10, none⟩ = some (.int .i64 mm) := HLa.out.cell (j := 10) rfl
          have d11 : v1.cell? ⟨g, 11, none⟩ = some (.slice p n cap) := HLa.out.cell (j := 11) rfl
          clear k9
          cases b5 with
          | true =>
            go_wp2_with fail
            refine (HU2.out v1).mono ?_
            rintro e9 v2 ⟨rfl, k9⟩
            have HKb : Hid (Kp (fun _ => False) w v2) := HKa.out.trans k9 (fun _ _ e => e)
            have HLb : Hid (Lv v2 g _) := HLa.out.keep k9 id
            have f6 : v2.cell? ⟨g, 6, none⟩ = some (.int .i64 node) := HLb.out.cell (j := 6) rfl
            have f11 : v2.cell? ⟨g, 11, none⟩ = some (.slice p n cap) := HLb.out.cell (j := 11) rfl
            clear k9
            cases b2 with
            | true =>
              go_wp2_with fail
              refine (HU1.out v2).mono ?_
              rintro e9 v3 ⟨rfl, k9⟩
              have HKc : Hid (Kp (fun _ => False) w v3) := HKb.out.trans k9 (fun _ _ e => e)
              have HLc : Hid (Lv v3 g _) := HLb.out.keep k9 id
              have i11 : v3.cell? ⟨g, 11, none⟩ = some (.slice p n cap) := HLc.out.cell (j := 11) rfl
              clear k9
              cases b1 with
              | true =>
                go_wp2_with fail
                refine (HUz.out (by omega) _ HKc.out).mono ?_
                rintro e9 v4 ⟨rfl, hv4⟩
                have hv5 := hv4.symm
                subst hv5
                clear hv4
                cases bz with
                | true =>
                  have HV : Hid (R = true) := by
                    show _ = _
                    rw [HRR.out]
                    rw [decide_eq_true (show key.size ≤ 8 from by omega)]
                    rw [decide_eq_true (show n ≤ 255 from by omega)]
                    rw [decide_eq_true (show (0 : Int) ≤ kind from by omega)]
                    rw [decide_eq_true (show kind ≤ 12 from by omega)]
                    simp
                  clear HRR
                  go_wp2_with fail
                  go_ret
                  exact ⟨by rw [HV.out]; rfl, HKc.out⟩
                | false =>
                  have HV : Hid (R = false) := by
                    show _ = _
                    rw [HRR.out]
                    rw [decide_eq_true (show key.size ≤ 8 from by omega)]
                    rw [decide_eq_true (show n ≤ 255 from by omega)]
                    rw [decide_eq_true (show (0 : Int) ≤ kind from by omega)]
                    rw [decide_eq_true (show kind ≤ 12 from by omega)]
                    simp
                  clear HRR
                  go_wp2_with fail
                  go_ret
                  exact ⟨by rw [HV.out]; rfl, HKc.out⟩
              | false =>
                have HV : Hid (R = false) := by
                  show _ = _
                  rw [HRR.out]
                  rw [decide_eq_true (show key.size ≤ 8 from by omega)]
                  rw [decide_eq_true (show n ≤ 255 from by omega)]
                  rw [decide_eq_true (show (0 : Int) ≤ kind from by omega)]
                  rw [decide_eq_true (show kind ≤ 12 from by omega)]
                  simp
                clear HRR
                go_wp2_with fail
                go_ret
                exact ⟨by rw [HV.out]; rfl, HKc.out⟩
            | false =>
              have HV : Hid (R = false) := by
                show _ = _
                rw [HRR.out]
                rw [decide_eq_true (show key.size ≤ 8 from by omega)]
                rw [decide_eq_true (show n ≤ 255 from by omega)]
                rw [decide_eq_true (show (0 : Int) ≤ kind from by omega)]
                rw [decide_eq_true (show kind ≤ 12 from by omega)]
                simp
              clear HRR
              go_wp2_with fail
              go_ret
              exact ⟨by rw [HV.out]; rfl, HKb.out⟩
          | false =>
            have HV : Hid (R = false) := by
              show _ = _
              rw [HRR.out]
              rw [decide_eq_true (show key.size ≤ 8 from by omega)]
              rw [decide_eq_true (show n ≤ 255 from by omega)]
              rw [decide_eq_true (show (0 : Int) ≤ kind from by omega)]
              rw [decide_eq_true (show kind ≤ 12 from by omega)]
              simp
            clear HRR
            go_wp2_with fail
            go_ret
            exact ⟨by rw [HV.out]; rfl, HKa.out⟩
        · have HV : Hid (R = false) := by
            show _ = _
            rw [HRR.out]
            rw [decide_eq_true (show key.size ≤ 8 from by omega)]
            rw [decide_eq_true (show n ≤ 255 from by omega)]
            rw [decide_eq_true (show (0 : Int) ≤ kind from by omega)]
            rw [decide_eq_false (show ¬ kind ≤ 12 from by omega)]
            simp
          clear HRR
          go_wp2_with fail
          go_ret
          exact ⟨by rw [HV.out]; rfl, HK0.out⟩
      · have HV : Hid (R = false) := by
          show _ = _
          rw [HRR.out]
          rw [decide_eq_true (show key.size ≤ 8 from by omega)]
          rw [decide_eq_true (show n ≤ 255 from by omega)]
          rw [decide_eq_false (show ¬ (0 : Int) ≤ kind from by omega)]
          simp
        clear HRR
        go_wp2_with fail
        go_ret
        exact ⟨by rw [HV.out]; rfl, HK0.out⟩
    · have HV : Hid (R = false) := by
        show _ = _
        rw [HRR.out]
        rw [decide_eq_true (show key.size ≤ 8 from by omega)]
        rw [decide_eq_false (show ¬ n ≤ 255 from by omega)]
        simp
      clear HRR
      go_wp2_with fail
      go_ret
      exact ⟨by rw [HV.out]; rfl, HK0.out⟩
  · have HV : Hid (R = false) := by
      show _ = _
      rw [HRR.out]
      rw [decide_eq_false (show ¬ key.size ≤ 8 from by omega)]
      simp
    clear HRR
    go_wp2_with fail
    go_ret
    exact ⟨by rw [HV.out]; rfl, HK0.out⟩
end Go.Proofs.YtoepemgflbmlcaaDoor

/- The document's reading of a command, plain: it is the program's. -/
namespace Go.Proofs.YtoepemgflbmlcaaDoor
set_option linter.unusedVariables false
set_option linter.unusedSimpArgs false

theorem itO_seqN (xs : List Nat) : ∀ k, itO (some xs) k = seqN xs k
  | 0 => rfl
  | k + 1 => by
    show nxtO _ (itO (some xs) k) = (seqN xs k).bind _
    rw [itO_seqN xs k]
    unfold nxtO
    cases seqN xs k with
    | none => rfl
    | some t => rfl
theorem itO_none : ∀ k, itO none k = none
  | 0 => rfl
  | k + 1 => by show nxtO _ (itO none k) = none; rw [itO_none k]; rfl
theorem vlO_seqV (xs : List Nat) (k : Nat) : vlO 1152921504606846976 (itO (some xs) k) = seqV xs k := by
  rw [itO_seqN]
  unfold vlO seqV
  cases (seqN xs k).bind (rdNum 1152921504606846976) with
  | none => rfl
  | some p => rfl
def st8 (st : Option (List Nat)) : Option (List Nat) := nxtO 1152921504606846976 (itO st 7)
def st10 (st : Option (List Nat)) : Option (List Nat) := itO (st8 st) 2
def n0O (st : Option (List Nat)) : Nat := vlO 8 (st10 st)
def st11 (st : Option (List Nat)) : Option (List Nat) := nxtO 8 (st10 st)
def st12 (st : Option (List Nat)) : Option (List Nat) := takeO (n0O st) (st11 st)
def n1O (st : Option (List Nat)) : Nat := vlO 255 (st12 st)
def st13 (st : Option (List Nat)) : Option (List Nat) := nxtO 255 (st12 st)
def stF (st : Option (List Nat)) : Option (List Nat) := itO (st13 st) (n1O st)
def sumO (st : Option (List Nat)) : Nat := vlO 1152921504606846976 (itO st 7)
theorem nxtO_some {most : Nat} {st : Option (List Nat)} {t : List Nat} (h : nxtO most st = some t) : ∃ xs, st = some xs ∧ rdNum most xs = some (vlO most st, t) := by
  unfold nxtO at h
  obtain ⟨⟨n, u⟩, h1, rfl⟩ := Option.map_eq_some_iff.1 h
  obtain ⟨xs, h2, h3⟩ := Option.bind_eq_some_iff.1 h1
  refine ⟨xs, h2, ?_⟩
  unfold vlO
  rw [h1, h3]
  rfl
theorem nxtO_of {most n : Nat} {xs t : List Nat} (h : rdNum most xs = some (n, t)) : nxtO most (some xs) = some t ∧ vlO most (some xs) = n := by
  unfold nxtO vlO
  show (rdNum most xs).map _ = _ ∧ ((rdNum most xs).map _).getD 0 = n
  rw [h]
  exact ⟨rfl, rfl⟩
theorem itO_some {st : Option (List Nat)} {k : Nat} {t : List Nat} (h : itO st k = some t) : ∃ xs, st = some xs ∧ seqN xs k = some t := by
  cases st with
  | none => rw [itO_none] at h; cases h
  | some xs => exact ⟨xs, rfl, by rw [← itO_seqN]; exact h⟩
theorem takeO_some {n : Nat} {st : Option (List Nat)} {t : List Nat} (h : takeO n st = some t) : ∃ xs, st = some xs ∧ n ≤ xs.length ∧ t = xs.drop n ∧ tkB n st = xs.take n := by
  unfold takeO at h
  obtain ⟨xs, h1, h2⟩ := Option.bind_eq_some_iff.1 h
  subst h1
  by_cases hn : n ≤ xs.length
  · rw [if_pos hn] at h2
    injection h2 with h2
    refine ⟨xs, rfl, hn, h2.symm, ?_⟩
    unfold tkB
    show (if n ≤ xs.length then some (xs.take n) else none).getD [] = _
    rw [if_pos hn]
    rfl
  · rw [if_neg hn] at h2
    cases h2
/-- the command that the document reads -/
def cpO (st : Option (List Nat)) : Cp := ⟨vlO 1152921504606846976 (itO st 0), vlO 1152921504606846976 (itO st 1), vlO 1152921504606846976 (itO st 2), vlO 1152921504606846976 (itO st 3), vlO 1152921504606846976 (itO st 4), vlO 1152921504606846976 (itO st 5), vlO 1152921504606846976 (itO st 6), sumO st, vlO 1152921504606846976 (itO (st8 st) 0), vlO 1152921504606846976 (itO (st8 st) 1), tkB (n0O st) (st11 st), (List.range (n1O st)).map (fun k => vlO 1152921504606846976 (itO (st13 st) k))⟩
theorem stF_some {st : Option (List Nat)} {t : List Nat} (h : stF st = some t) : ∃ xs, st = some xs ∧ (sumO st ≤ 4294967295 → rdCmd xs = some (cpO st, t)) ∧ (4294967295 < sumO st → rdCmd xs = none) := by
  obtain ⟨t7, e13, h6⟩ := itO_some h
  obtain ⟨t6, e12, h5⟩ := nxtO_some e13
  obtain ⟨u5, e11, hn, et6, hk⟩ := takeO_some e12
  obtain ⟨t5, e10, h4⟩ := nxtO_some e11
  obtain ⟨t4, e8, h3⟩ := itO_some e10
  obtain ⟨t3, e7, h2⟩ := nxtO_some e8
  obtain ⟨xs, e0, h1⟩ := itO_some e7
  subst e0
  have hT : rdText 8 t5 = some (tkB (n0O (some xs)) (st11 (some xs)), t6) := by
    unfold rdText
    rw [h4]
    dsimp only
    show (if n0O (some xs) ≤ u5.length then some (u5.take (n0O (some xs)), u5.drop (n0O (some xs))) else none) = _
    rw [if_pos hn, hk, et6]
  have hsum : rdNum 4294967295 t3 = if sumO (some xs) ≤ 4294967295 then some (sumO (some xs), t4) else none := by
    rw [rdNum_less (by decide), h2]
    rfl
  refine ⟨xs, rfl, fun hs => ?_, fun hs => ?_⟩
  · rw [if_pos hs] at hsum
    rw [rdCmd_yes h1 hsum h3 hT h5 h6]
    unfold cpO
    rw [vlO_seqV, vlO_seqV, vlO_seqV, vlO_seqV, vlO_seqV, vlO_seqV, vlO_seqV, e8, vlO_seqV, vlO_seqV, e13]
    simp only [vlO_seqV]
    rfl
  · rw [if_neg (by omega)] at hsum
    exact rdCmd_no2 h1 hsum
theorem stF_none {xs : List Nat} (h : stF (some xs) = none) : rdCmd xs = none := by
  cases h1 : seqN xs 7 with
  | none => exact rdCmd_no1 h1
  | some t3 =>
    cases h2 : rdNum 4294967295 t3 with
    | none => exact rdCmd_no2 h1 h2
    | some p =>
      obtain ⟨s, t4⟩ := p
      have h2' : rdNum 1152921504606846976 t3 = some (s, t4) := by
        rw [rdNum_less (by decide)] at h2
        obtain ⟨⟨a, b⟩, ha, hb⟩ := Option.bind_eq_some_iff.1 h2
        dsimp only at hb
        by_cases hl : a ≤ 4294967295
        · rw [if_pos hl] at hb
          injection hb with hb
          rw [ha, hb]
        · rw [if_neg hl] at hb
          cases hb
      have e8 : st8 (some xs) = some t4 := by
        unfold st8
        rw [itO_seqN, h1]
        exact (nxtO_of h2').1
      cases h3 : seqN t4 2 with
      | none => exact rdCmd_no3 h1 h2 h3
      | some t5 =>
        have e10 : st10 (some xs) = some t5 := by
          unfold st10
          rw [e8, itO_seqN, h3]
        cases h4 : rdText 8 t5 with
        | none => exact rdCmd_no4 h1 h2 h3 h4
        | some p =>
          obtain ⟨sx, t6⟩ := p
          unfold rdText at h4
          cases h41 : rdNum 8 t5 with
          | none => rw [h41] at h4; cases h4
          | some p =>
            obtain ⟨m, u5⟩ := p
            rw [h41] at h4
            dsimp only at h4
            by_cases hl : m ≤ u5.length
            · rw [if_pos hl] at h4
              injection h4 with h4
              injection h4 with h42 h43
              have e12 : st12 (some xs) = some t6 := by
                unfold st12 n0O st11
                rw [e10, (nxtO_of h41).1, (nxtO_of h41).2]
                unfold takeO
                show (if m ≤ u5.length then some (u5.drop m) else none) = _
                rw [if_pos hl, h43]
              have hT : rdText 8 t5 = some (sx, t6) := by
                unfold rdText
                rw [h41]
                dsimp only
                rw [if_pos hl, h42, h43]
              cases h5 : rdNum 255 t6 with
              | none => exact rdCmd_no5 h1 h2 h3 hT h5
              | some p =>
                obtain ⟨n, t7⟩ := p
                cases h6 : seqN t7 n with
                | none => exact rdCmd_no6 h1 h2 h3 hT h5 h6
                | some t8 =>
                  exfalso
                  have : stF (some xs) = some t8 := by
                    unfold stF st13 n1O
                    rw [e12, (nxtO_of h5).1, (nxtO_of h5).2, itO_seqN, h6]
                  rw [h] at this
                  cases this
            · rw [if_neg hl] at h4
              cases h4
/-- the command of bytes that is read and may be, and what is left -/
def rdX (st : Option (List Nat)) : Option (Cp × List Nat) := (st.bind rdCmd).bind (fun p => if mayC (csOf p.1) (intsOf p.1.nodes) = true then some p else none)
end Go.Proofs.YtoepemgflbmlcaaDoor
