/- Texts of this proof, joined: Nu2, Nv2. -/
import Derived.Test.YtoepemgflbmlcaaDoorMgBA
/- The document's Reader: Num. -/
namespace Go.Proofs.YtoepemgflbmlcaaDoor
set_option linter.unusedVariables false
set_option linter.unusedSimpArgs false
set_option linter.unnecessarySimpa false
open Go.RowKit Go.Deep

theorem valB_snoc (l : List Nat) (d : Nat) : valB (l ++ [d]) = valB l * 256 + d := by
  unfold valB
  rw [List.foldl_append]
  rfl
theorem valB_take {l : List Nat} {k d : Nat} (h : l[k]? = some d) : valB (l.take (k + 1)) = valB (l.take k) * 256 + d := by
  rw [List.take_add_one, h]
  exact valB_snoc _ _
/-- no byte more than the greatest number has -/
theorem valB_small {l : List Nat} (hb : ∀ x ∈ l, x < 256) (h8 : l.length ≤ 8) (hh : l.length = 8 → ∀ d, l.head? = some d → d ≤ 16) : valB l < 1224979098644774912 := by
  cases l with
  | nil => show (0 : Nat) < _; decide
  | cons d m =>
    have hm := valB_lt m (fun y hy => hb y (List.mem_cons_of_mem _ hy))
    have hd := hb d (List.mem_cons_self ..)
    rw [List.length_cons] at h8
    rw [valB_cons]
    by_cases e : m.length = 7
    · have := hh (by rw [List.length_cons, e]) d rfl
      rw [e] at hm ⊢
      have h7 : (256 : Nat) ^ 7 = 72057594037927936 := rfl
      omega
    · have h6 : (256 : Nat) ^ m.length ≤ 256 ^ 6 := Nat.pow_le_pow_right (by decide) (by omega)
      have h7 : (256 : Nat) ^ 6 = 281474976710656 := rfl
      have h9 : d * 256 ^ m.length ≤ 255 * 256 ^ m.length := Nat.mul_le_mul_right _ (by omega)
      omega
theorem take_small {l : List Nat} {k : Nat} (hb : ∀ x ∈ l, x < 256) (h8 : l.length ≤ 8) (hh : l.length = 8 → ∀ d, l.head? = some d → d ≤ 16) : valB (l.take k) < 1224979098644774912 := by
  refine valB_small (fun x hx => hb x (List.mem_of_mem_take hx)) (by rw [List.length_take]; omega) (fun hl d hd => ?_)
  rw [List.length_take] at hl
  have hk : l.take k = l := List.take_of_length_le (by omega)
  rw [hk] at hd
  exact hh (by omega) d hd
theorem valB_big {l : List Nat} {d : Nat} (h8 : l.length = 8) (hd : l.head? = some d) (h : 16 < d) : 1152921504606846976 < valB l := by
  cases l with
  | nil => cases hd
  | cons y m =>
    have : y = d := by simpa using hd
    subst this
    rw [List.length_cons] at h8
    rw [valB_cons, show m.length = 7 by omega]
    have h7 : (256 : Nat) ^ 7 = 72057594037927936 := rfl
    omega

set_option maxRecDepth 100000 in
set_option maxHeartbeats 3200000 in
theorem rnum_read {Z : Nat → Prop} (r x : Nat) (t : List Nat) (w : World) (h : Ru Z w r (some (x :: t))) (hb : ∀ y ∈ t, y < 256) (h8 : x ≤ 8) (hl : x ≤ t.length) : Calls Tryd.prog 44 #[.pointer (some ⟨r, 0, none⟩)] w fun e w' => RnRes Z r (some (x :: t)) e w' ∧ Kp (fun b => b = r) w w' := by
  have HT : Hid (Calls _ _ _ w _) := rtake_yes r 1 (x :: t) w h (by simp)
  have hxi : (x : Int) < 256 := by omega
  obtain ⟨ds, hds⟩ : ∃ ds, ds = t.take x := ⟨_, rfl⟩
  have HDl : Hid (ds.length = x) := by rw [hds, List.length_take]; show _ = _; omega
  have HDb : Hid (∀ y ∈ ds, y < 256) := fun y hy => hb y (by rw [hds] at hy; exact List.mem_of_mem_take hy)
  have HV : Hid ((some (x :: t)).bind (rdNum 1152921504606846976) = if ds.head? ≠ some 0 ∧ valB ds ≤ 1152921504606846976 then some (valB ds, t.drop x) else none) := by
    show rdNum _ (x :: t) = _
    rw [rdNum_cons, hds]
    by_cases hq : (t.take x).head? ≠ some 0 ∧ valB (t.take x) ≤ 1152921504606846976
    · rw [if_pos hq, if_pos ⟨h8, hl, hq⟩]
    · rw [if_neg hq, if_neg (fun h => hq h.2.2)]
  have H8 : Hid (x ≤ 8 ∧ x ≤ t.length) := ⟨h8, hl⟩
  have h8i : ¬ (8 : Int) < (x : Int) := by omega
  have h8j : (x : Int) ≤ 8 := by omega
  clear h hb h8 hl
  go_enter Tryd.func44, Tryd.ntmps44
  go_wp2_with fail
  refine HT.out.mono ?_
  rintro e9 w1 ⟨⟨q1, c1, rfl, hc1, r1, hru, _⟩, k1⟩
  obtain ⟨b1, o1, rfl, hcl⟩ := r1.cell 0 (by decide)
  have hcl' : w1.cell? ⟨b1, o1, none⟩ = some (.int .u8 (x : Int)) := hcl
  have HK1 : Hid (Kp (fun b => b = r) w w1) := k1
  have hb1 : w1.cell? ⟨r, 1, none⟩ = some (.bool false) := hru.b
  have HT2 : Hid (Calls _ _ _ w1 _) := rtake_yes r x t w1 hru H8.out.2
  clear HT r1 hcl hru k1
  go_wp2_with fail
  refine HT2.out.mono ?_
  rintro e9 w2 ⟨⟨q2, c2, rfl, hc2, r2, hru2, _⟩, k2⟩
  rw [← hds] at r2
  have HR2 : Hid (Rb w2 q2 x ds) := r2
  have HU2 : Hid (Ru Z w2 r (some (t.drop x))) := hru2
  have HB2 : Hid _ := hru2.bad
  have hb2 : w2.cell? ⟨r, 1, none⟩ = some (.bool false) := hru2.b
  have hf2 : w2.frozen? ⟨r, 1, none⟩ = false := hru2.f
  have HK2 : Hid (Kp (fun b => b = r) w w2) := HK1.out.trans k2 (fun _ _ e => e)
  clear r2 k2 hru2 HT2 hcl' hb1 hds
  go_wp2_with fail
  go_loopg [5, 31] x (fun gk nv iv wz => ∃ (k : Nat) (N : Int), k ≤ x ∧ gk = x - k ∧ iv = .int .i64 k ∧ nv = .int .i64 N ∧ w2 = wz ∧ Hid (N = (valB (ds.take k) : Int)) ∧ Hid (1 ≤ k → ds.head? ≠ some 0 ∧ (ds.length = 8 → ∀ d, ds.head? = some d → d ≤ 16)))
  case atStart => exact ⟨0, 0, Nat.zero_le _, rfl, rfl, rfl, rfl, rfl, fun h => absurd h (by decide)⟩
  case round =>
    obtain ⟨k, N, hk, rfl, rfl, rfl, rfl, HN, HH⟩ := hrel
    by_cases hlt : (k : Int) < (x : Int)
    · obtain ⟨b2, o2, rfl, hcl2⟩ := HR2.out.cell k (by omega)
      obtain ⟨d, hd⟩ : ∃ d, ds[k]? = some d := ⟨_, List.getElem?_eq_getElem (by have := HDl.out; omega)⟩
      have hd9 : d < 256 := HDb.out d (List.mem_of_getElem? hd)
      have hcl3 : w2.cell? ⟨b2, o2 + k, none⟩ = some (.int .u8 (d : Int)) := by
        rw [hcl2, List.getD_eq_getElem?_getD, hd]
        rfl
      have HD : Hid (ds[k]? = some d) := hd
      have hdi : (d : Int) < 256 := by omega
      have HKi : Hid (wrap64 ((k : Int) + 1) = ((k + 1 : Nat) : Int)) := (by show _ = _; unfold wrap64; omega)
      clear hcl2 hd
      by_cases h0 : k = 0
      · subst h0
        have HHd : Hid (ds.head? = some d) := by rw [List.head?_eq_getElem?]; exact HD.out
        have hcl4 : w2.cell? ⟨b2, o2, none⟩ = some (.int .u8 (d : Int)) := hcl3
        clear hcl3
        by_cases hd0 : d = 0
        · subst hd0
          have HNo : Hid (¬ (ds.head? ≠ some 0 ∧ valB ds ≤ 1152921504606846976)) := fun h => h.1 HHd.out
          go_wp2_with fail
          go_ret
          refine ⟨?_, HK2.out.trans HB2.out.2 (fun _ _ e => e)⟩
          unfold RnRes
          rw [HV.out, if_neg HNo.out]
          exact ⟨⟨_, rfl⟩, HB2.out.1⟩
        · have hd0i : ((d : Int) == 0) = false := by simpa using (show ¬ (d : Int) = 0 by omega)
          by_cases hx8 : x = 8
          · have hx8b : ((x : Int) == 8) = true := by simpa using (show (x : Int) = 8 by omega)
            by_cases h16 : 16 < d
            · have h16i : (16 : Int) < (d : Int) := by omega
              have HNo : Hid (¬ (ds.head? ≠ some 0 ∧ valB ds ≤ 1152921504606846976)) := fun h => by
                have := valB_big (by rw [HDl.out]; exact hx8) HHd.out h16
                omega
              clear hx8
              go_wp2_with fail
              go_ret
              refine ⟨?_, HK2.out.trans HB2.out.2 (fun _ _ e => e)⟩
              unfold RnRes
              rw [HV.out, if_neg HNo.out]
              exact ⟨⟨_, rfl⟩, HB2.out.1⟩
            · have h16i : ¬ (16 : Int) < (d : Int) := by omega
              have HHn : Hid (ds.head? ≠ some 0 ∧ (ds.length = 8 → ∀ d, ds.head? = some d → d ≤ 16)) := ⟨fun h => by rw [HHd.out] at h; injection h with h; exact hd0 h, fun _ d' h => by rw [HHd.out] at h; injection h with h; omega⟩
              clear hx8
              have HS1 : Hid (N * 256 + (d : Int) = (valB (ds.take (0 + 1)) : Int) ∧ valB (ds.take (0 + 1)) < 1224979098644774912 ∧ 0 ≤ N) := by
                have h1 := valB_take HD.out
                have h2 := take_small (k := 0 + 1) HDb.out (by have := HDl.out; have := H8.out; omega) HHn.out.2
                have h3 := HN.out
                exact ⟨by rw [h1]; omega, h2, by omega⟩
              have HN1 : Hid (wrap64 (wrap64 (N * 256) + (d : Int)) = N * 256 + (d : Int)) := by
                have h1 := HS1.out
                have h2 : wrap64 (N * 256) = N * 256 := by unfold wrap64; omega
                show _ = _
                rw [h2]
                unfold wrap64
                omega
              go_wp2_with fail
              go_roundg (x - (0 + 1))
              case rel => exact ⟨0 + 1, N * 256 + (d : Int), by omega, rfl, by first | rw [HKi.out] | rfl | go_num, by first | rw [HN1.out] | rfl | go_num, rfl, HS1.out.1, fun _ => HHn.out⟩
              case measure => omega
          · have hx8b : ((x : Int) == 8) = false := by simpa using (show ¬ (x : Int) = 8 by omega)
            have HHn : Hid (ds.head? ≠ some 0 ∧ (ds.length = 8 → ∀ d, ds.head? = some d → d ≤ 16)) := ⟨fun h => by rw [HHd.out] at h; injection h with h; exact hd0 h, fun h => absurd (HDl.out.symm.trans h) hx8⟩
            have HS1 : Hid (N * 256 + (d : Int) = (valB (ds.take (0 + 1)) : Int) ∧ valB (ds.take (0 + 1)) < 1224979098644774912 ∧ 0 ≤ N) := by
              have h1 := valB_take HD.out
              have h2 := take_small (k := 0 + 1) HDb.out (by have := HDl.out; have := H8.out; omega) HHn.out.2
              have h3 := HN.out
              exact ⟨by rw [h1]; omega, h2, by omega⟩
            have HN1 : Hid (wrap64 (wrap64 (N * 256) + (d : Int)) = N * 256 + (d : Int)) := by
              have h1 := HS1.out
              have h2 : wrap64 (N * 256) = N * 256 := by unfold wrap64; omega
              show _ = _
              rw [h2]
              unfold wrap64
              omega
            go_wp2_with fail
            go_roundg (x - (0 + 1))
            case rel => exact ⟨0 + 1, N * 256 + (d : Int), by omega, rfl, by first | rw [HKi.out] | rfl | go_num, by first | rw [HN1.out] | rfl | go_num, rfl, HS1.out.1, fun _ => HHn.out⟩
            case measure => omega
      · have h0b : ((k : Int) == 0) = false := by simpa using (show ¬ (k : Int) = 0 by omega)
        have HHn : Hid (ds.head? ≠ some 0 ∧ (ds.length = 8 → ∀ d, ds.head? = some d → d ≤ 16)) := HH.out (by omega)
        have HS1 : Hid (N * 256 + (d : Int) = (valB (ds.take (k + 1)) : Int) ∧ valB (ds.take (k + 1)) < 1224979098644774912 ∧ 0 ≤ N) := by
          have h1 := valB_take HD.out
          have h2 := take_small (k := k + 1) HDb.out (by have := HDl.out; have := H8.out; omega) HHn.out.2
          have h3 := HN.out
          exact ⟨by rw [h1]; omega, h2, by omega⟩
        have HN1 : Hid (wrap64 (wrap64 (N * 256) + (d : Int)) = N * 256 + (d : Int)) := by
          have h1 := HS1.out
          have h2 : wrap64 (N * 256) = N * 256 := by unfold wrap64; omega
          show _ = _
          rw [h2]
          unfold wrap64
          omega
        go_wp2_with fail
        go_roundg (x - (k + 1))
        case rel => exact ⟨k + 1, N * 256 + (d : Int), by omega, rfl, by first | rw [HKi.out] | rfl | go_num, by first | rw [HN1.out] | rfl | go_num, rfl, HS1.out.1, fun _ => HHn.out⟩
        case measure => omega
    · have hkx : ds.take k = ds := List.take_of_length_le (by have := HDl.out; omega)
      rw [hkx] at HN
      have HHe : Hid (ds.head? ≠ some 0) := by
        by_cases hx0 : x = 0
        · have h9 := HDl.out
          rw [hx0] at h9
          rw [List.eq_nil_of_length_eq_zero h9]
          intro h
          cases h
        · exact (HH.out (by omega)).1
      by_cases hv : valB ds ≤ 1152921504606846976
      · have hvi : ¬ (1152921504606846976 : Int) < N := by have := HN.out; omega
        have HYe : Hid (ds.head? ≠ some 0 ∧ valB ds ≤ 1152921504606846976) := ⟨HHe.out, hv⟩
        go_wp2_with fail
        go_ret
        refine ⟨?_, HK2.out⟩
        unfold RnRes
        rw [HV.out, if_pos HYe.out]
        refine ⟨?_, HU2.out⟩
        show Ending.returned (.int .i64 N) = _
        rw [HN.out]
      · have hvi : (1152921504606846976 : Int) < N := by have := HN.out; omega
        have HNo : Hid (¬ (ds.head? ≠ some 0 ∧ valB ds ≤ 1152921504606846976)) := fun h => hv h.2
        go_wp2_with fail
        go_ret
        refine ⟨?_, HK2.out.trans HB2.out.2 (fun _ _ e => e)⟩
        unfold RnRes
        rw [HV.out, if_neg HNo.out]
        exact ⟨⟨_, rfl⟩, HB2.out.1⟩
theorem readNum_ok {Z : Nat → Prop} (r : Nat) (st : Option (List Nat)) (w : World) (h : Ru Z w r st) (hb : ∀ xs, st = some xs → ∀ x ∈ xs, x < 256) : Calls Tryd.prog 44 #[.pointer (some ⟨r, 0, none⟩)] w fun e w' => RnRes Z r st e w' ∧ Kp (fun b => b = r) w w' := by
  cases st with
  | none => exact rnum_early r none w h (fun xs e => (by cases e))
  | some xs =>
    have hx := hb xs rfl
    cases xs with
    | nil => exact rnum_early r (some []) w h (fun ys e => by cases e; rfl)
    | cons x t =>
      by_cases h8 : x ≤ 8
      · by_cases hl : x ≤ t.length
        · exact rnum_read r x t w h (fun y hy => hx y (List.mem_cons_of_mem _ hy)) h8 hl
        · exact rnum_wide r x t w h (hx x (List.mem_cons_self ..)) (Or.inr (by omega))
      · exact rnum_wide r x t w h (hx x (List.mem_cons_self ..)) (Or.inl (by omega))
end Go.Proofs.YtoepemgflbmlcaaDoor

/- The document's Reader: list. -/
namespace Go.Proofs.YtoepemgflbmlcaaDoor
set_option linter.unusedVariables false
set_option linter.unusedSimpArgs false
set_option linter.unnecessarySimpa false
open Go.RowKit Go.Deep

theorem rdNum_less {most : Nat} (hm : most ≤ 1152921504606846976) (xs : List Nat) : rdNum most xs = (rdNum 1152921504606846976 xs).bind (fun p => if p.1 ≤ most then some p else none) := by
  cases xs with
  | nil => rfl
  | cons w t =>
    rw [rdNum_cons, rdNum_cons]
    by_cases h : w ≤ 8 ∧ w ≤ t.length ∧ (t.take w).head? ≠ some 0 ∧ valB (t.take w) ≤ 1152921504606846976
    · rw [if_pos h]
      show _ = if valB (t.take w) ≤ most then _ else _
      by_cases h2 : valB (t.take w) ≤ most
      · rw [if_pos h2, if_pos ⟨h.1, h.2.1, h.2.2.1, h2⟩]
      · rw [if_neg h2, if_neg (fun q => h2 q.2.2.2)]
    · rw [if_neg h, if_neg (fun q => h ⟨q.1, q.2.1, q.2.2.1, Nat.le_trans q.2.2.2 hm⟩)]
      rfl
/-- what the Reader's list answers -/
def RlRes (Z : Nat → Prop) (r most : Nat) (st : Option (List Nat)) (e : Ending) (w' : World) : Prop := match st.bind (rdNum most) with
  | some (n, t) => e = .returned (.int .i64 (n : Int)) ∧ Ru Z w' r (some t)
  | none => e = .returned (.int .i64 0) ∧ Ru Z w' r none

set_option maxRecDepth 100000 in
set_option maxHeartbeats 1600000 in
theorem rlist_ok {Z : Nat → Prop} (r most : Nat) (st : Option (List Nat)) (w : World) (h : Ru Z w r st) (hm : most ≤ 1152921504606846976) (hb : ∀ xs, st = some xs → ∀ x ∈ xs, x < 256) : Calls Tryd.prog 46 #[.pointer (some ⟨r, 0, none⟩), .int .i64 most] w fun e w' => RlRes Z r most st e w' ∧ Kp (fun b => b = r) w w' := by
  have H : Hid (Calls _ _ _ w _) := readNum_ok r st w h hb
  have HM : Hid (most ≤ 1152921504606846976) := hm
  have HL : Hid (st.bind (rdNum most) = (st.bind (rdNum 1152921504606846976)).bind (fun p => if p.1 ≤ most then some p else none)) := by
    show _ = _
    cases st with
    | none => rfl
    | some xs => exact rdNum_less hm xs
  clear h hm hb
  go_enter Tryd.func46, Tryd.ntmps46
  go_wp2_with fail
  refine H.out.mono ?_
  rintro e9 w1 ⟨hu, k1⟩
  have HK1 : Hid (Kp (fun b => b = r) w w1) := k1
  unfold RnRes at hu
  clear k1 H
  cases hq : st.bind (rdNum 1152921504606846976) with
  | none =>
    rw [hq] at hu
    obtain ⟨⟨z, he⟩, hru⟩ := hu
    subst he
    have HV : Hid (st.bind (rdNum most) = none) := by show _ = _; rw [HL.out, hq]; rfl
    have HB : Hid _ := hru.bad
    have hb1 : w1.cell? ⟨r, 1, none⟩ = some (.bool true) := hru.b
    have hf1 : w1.frozen? ⟨r, 1, none⟩ = false := hru.f
    clear hru hq HL
    go_wp2_with fail
    go_ret
    refine ⟨?_, HK1.out.trans HB.out.2 (fun _ _ e => e)⟩
    unfold RlRes
    rw [HV.out]
    exact ⟨rfl, HB.out.1⟩
  | some p =>
    obtain ⟨n, t⟩ := p
    rw [hq] at hu
    obtain ⟨he, hru⟩ := hu
    subst he
    have HB : Hid _ := hru.bad
    have HU : Hid (Ru Z w1 r (some t)) := hru
    have hb1 : w1.cell? ⟨r, 1, none⟩ = some (.bool false) := hru.b
    have hf1 : w1.frozen? ⟨r, 1, none⟩ = false := hru.f
    by_cases hn : n ≤ most
    · have hni : ¬ (most : Int) < (n : Int) := by omega
      have HV : Hid (st.bind (rdNum most) = some (n, t)) := by
        show _ = _
        rw [HL.out, hq]
        show (if n ≤ most then _ else _) = _
        rw [if_pos hn]
      clear hru hq HL
      go_wp2_with fail
      go_ret
      refine ⟨?_, HK1.out⟩
      unfold RlRes
      rw [HV.out]
      exact ⟨rfl, HU.out⟩
    · have hni : (most : Int) < (n : Int) := by omega
      have HV : Hid (st.bind (rdNum most) = none) := by
        show _ = _
        rw [HL.out, hq]
        show (if n ≤ most then _ else _) = _
        rw [if_neg hn]
      clear hru hq HL
      go_wp2_with fail
      go_ret
      refine ⟨?_, HK1.out.trans HB.out.2 (fun _ _ e => e)⟩
      unfold RlRes
      rw [HV.out]
      exact ⟨rfl, HB.out.1⟩
end Go.Proofs.YtoepemgflbmlcaaDoor
