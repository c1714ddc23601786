/- The errors of Rows, and the reference's Rows. -/
import Derived.Test.YtbmhfclknilcoaaDoorM18
namespace Go.Proofs.YtbmhfclknilcoaaDoor
open Go.RowKit Go.Deep

/-- a number that is a row's -/
def Good (G : Nat) (z : Int) : Prop := 0 ≤ z ∧ z < (G : Int)

set_option maxRecDepth 100000 in
set_option maxHeartbeats 1600000 in
theorem rows_no1 (s : Sh) (pl : Option Addr) (n cl : Nat) (w : World) (hs : Rd w s) (h : ¬ (isM s = true ∧ 1 ≤ n ∧ n ≤ 255)) :
    Calls Tryd.prog 38 #[.slice s.g s.G s.cap, .slice pl n cl] w fun e w' => e = .returned (.tuple #[.slice none 0 0, .int .i64 1]) ∧ w' = w := by
  have HS : Hid (Calls _ _ _ w _) := isMatrix_any s w hs
  clear hs
  by_cases ms : isM s = true
  · rw [ms] at HS
    by_cases h1 : (n : Int) < 1
    · have d1 : decide ((n : Int) < 1) = true := by simp; omega
      clear ms h
      go_enter Tryd.func38, Tryd.ntmps38
      go_wp2_with fail
      refine HS.out.mono ?_
      rintro e w' ⟨rfl, hw⟩
      obtain rfl := hw.symm
      go_wp2
      go_ret2
      exact ⟨rfl, rfl⟩
    · have d1 : decide ((n : Int) < 1) = false := by simp; omega
      have h2 : 255 < (n : Int) := by
        by_cases h2 : 255 < (n : Int)
        · exact h2
        · exact absurd ⟨ms, by omega, by omega⟩ h
      have d2 : decide (255 < (n : Int)) = true := by simp; omega
      clear ms h
      go_enter Tryd.func38, Tryd.ntmps38
      go_wp2_with fail
      refine HS.out.mono ?_
      rintro e w' ⟨rfl, hw⟩
      obtain rfl := hw.symm
      go_wp2
      go_ret2
      exact ⟨rfl, rfl⟩
  · have ms' : isM s = false := by simpa using ms
    rw [ms'] at HS
    clear ms ms' h
    go_enter Tryd.func38, Tryd.ntmps38
    go_wp2_with fail
    refine HS.out.mono ?_
    rintro e w' ⟨rfl, hw⟩
    obtain rfl := hw.symm
    go_wp2
    go_ret2
    exact ⟨rfl, rfl⟩

set_option maxRecDepth 100000 in
set_option maxHeartbeats 1600000 in
theorem rows_no2 (s : Sh) (pl : Option Addr) (bl ol n cl : Nat) (z : Nat → Int) (w : World) (hs : Rd w s) (ms : isM s = true) (hpl : ∀ k, k < n → pl = some ⟨bl, ol, none⟩)
    (hl : ∀ k, k < n → w.cell? ⟨bl, ol + k, none⟩ = some (.int .i64 (z k))) (h1 : 1 ≤ (n : Int)) (h2 : (n : Int) ≤ 255) (hbad : ¬ ∀ k, k < n → Good s.G (z k)) :
    Calls Tryd.prog 38 #[.slice s.g s.G s.cap, .slice pl n cl] w fun e w' => e = .returned (.tuple #[.slice none 0 0, .int .i64 1]) ∧ Kp (fun _ => False) w w' := by
  obtain ⟨a1, a2, a3, a4, a5⟩ := isM_true ms
  have HS : Hid (Calls _ _ _ w _) := isMatrix_any s w hs
  rw [ms] at HS
  have HG1 := hs.at0 (by omega)
  rw [HG1] at HS ⊢
  obtain rfl := hpl 0 (by omega)
  have HA : Hid (∀ r, r < s.G → s.L r = s.L 0) := a5
  have HBd : Hid (¬ ∀ k, k < n → Good s.G (z k)) := hbad
  have d1 : decide ((n : Int) < 1) = false := by simp; omega
  have d2 : decide (255 < (n : Int)) = false := by simp; omega
  have hmk := run_make_row' (P := Tryd.prog) 24 30 (.slice none 0 0) 24 Tryd.underlying24 info42 rfl .i64 .i64 n (by omega) (by omega)
  clear ms HG1 a5 hbad
  go_enter Tryd.func38, Tryd.ntmps38
  go_wp2_with fail
  refine HS.out.mono ?_
  rintro e w' ⟨rfl, hw⟩
  obtain rfl := hw.symm
  go_wp2
  clear HS hmk d1 d2
  go_loopg [27] n (fun gk i wr => ∃ (r : Nat) (B : Nat → Nat), r ≤ n ∧ gk = n - r ∧ i = .int .i64 r ∧ Hid (∀ k, k < r → Good s.G (z k)) ∧ Part w wr w.heap.size n (s.L 0) r B (fun r => s.M (z r).toNat))
  case atStart => exact ⟨0, _, Nat.zero_le _, rfl, rfl, fun k hk => absurd hk (Nat.not_lt_zero _), Part.start w n _ _⟩
  case round =>
    obtain ⟨r, B, hr, rfl, rfl, hgd, hP⟩ := hrel
    by_cases hlt : (r : Int) < (n : Int)
    · have f1 := hP.kept.cellv (hl r (by omega)) id
      by_cases hz0 : z r < 0
      · have d1 : decide (z r < 0) = true := by simp; omega
        go_wp2
        go_ret2
        exact ⟨rfl, hP.kept⟩
      · have d1 : decide (z r < 0) = false := by simp; omega
        by_cases hzG : (s.G : Int) ≤ z r
        · have d2 : decide ((s.G : Int) ≤ z r) = true := by simp; omega
          go_wp2
          go_ret2
          exact ⟨rfl, hP.kept⟩
        · obtain ⟨l, hl2⟩ : ∃ l : Nat, z r = (l : Int) := ⟨(z r).toNat, by omega⟩
          have hGr : Hid (Good s.G (z r)) := ⟨by omega, by omega⟩
          have htn : Hid ((z r).toNat = l) := by show _ = _; omega
          have hlr : l < s.G := by omega
          rw [hl2] at f1
          have f2 := hP.kept.cellv (hs.hd l hlr) id
          rw [HA.out _ hlr] at f2
          have d1' : decide ((l : Int) < 0) = false := by simp
          have d2' : decide ((s.G : Int) ≤ (l : Int)) = false := by simp; omega
          have hcp : Hid (Calls _ _ _ wr _) := copyRow_any (s.A l) (s.RB l) (s.RO l) (s.L 0) (s.C l) (s.M l) wr (fun k hk => hs.to l hlr k (by rw [HA.out _ hlr]; exact hk)) (fun k hk => hP.kept.cellv (hs.cell l hlr k (by rw [HA.out _ hlr]; exact hk)) id) (by omega)
          have HG : Hid (∀ w2, Kp (fun _ => False) wr w2 → w2.frozen? ⟨w.heap.size, r, none⟩ = false ∧ w2.cell? ⟨w.heap.size, r, none⟩ = some (heads2 B (s.L 0) r r)) := fun w2 k => ⟨(k.row hP.top id).frozen r, (k.row hP.top id).cell (by omega)⟩
          clear hl2 d1 hz0 hzG
          go_wp2_with fail
          refine hcp.out.mono ?_
          rintro e w2 ⟨rfl, hK2, hR2⟩
          obtain ⟨g3, g4⟩ := HG.out w2 hK2
          have HPs : Hid _ := hP.step (Nat.le_refl _) hK2 (by show w2.rowIs _ _ _ (By (s.M (z r).toNat)); rw [htn.out]; exact hR2)
          clear hP hR2
          go_wp2
          go_roundg (n - (r + 1))
          case rel => exact ⟨r + 1, _, by omega, rfl, by go_num, fun k hk => by
            by_cases e : k = r
            · rw [e]; exact hGr.out
            · exact hgd.out k (by omega), HPs.out⟩
          case measure => omega
    · exact absurd (fun k hk => hgd.out k (by omega)) HBd.out

set_option maxRecDepth 100000 in
set_option maxHeartbeats 1600000 in
theorem refRows_no1 (s : Sh) (pl : Option Addr) (n cl : Nat) (w : World) (hs : Rd w s) (h : ¬ (isM s = true ∧ 1 ≤ n ∧ n ≤ 255)) :
    Calls Tryd.prog 25 #[.slice s.g s.G s.cap, .slice pl n cl] w fun e w' => e = .returned (.tuple #[.slice none 0 0, .int .i64 1]) ∧ w' = w := by
  have HS : Hid (Calls _ _ _ w _) := refIs_any s w hs
  clear hs
  by_cases ms : isM s = true
  · rw [ms] at HS
    by_cases h1 : (n : Int) < 1
    · have d1 : decide ((n : Int) < 1) = true := by simp; omega
      clear ms h
      go_enter Tryd.func25, Tryd.ntmps25
      go_wp2_with fail
      refine HS.out.mono ?_
      rintro e w' ⟨rfl, hw⟩
      obtain rfl := hw.symm
      go_wp2
      go_ret2
      exact ⟨rfl, rfl⟩
    · have d1 : decide ((n : Int) < 1) = false := by simp; omega
      have h2 : 255 < (n : Int) := by
        by_cases h2 : 255 < (n : Int)
        · exact h2
        · exact absurd ⟨ms, by omega, by omega⟩ h
      have d2 : decide (255 < (n : Int)) = true := by simp; omega
      clear ms h
      go_enter Tryd.func25, Tryd.ntmps25
      go_wp2_with fail
      refine HS.out.mono ?_
      rintro e w' ⟨rfl, hw⟩
      obtain rfl := hw.symm
      go_wp2
      go_ret2
      exact ⟨rfl, rfl⟩
  · have ms' : isM s = false := by simpa using ms
    rw [ms'] at HS
    clear ms ms' h
    go_enter Tryd.func25, Tryd.ntmps25
    go_wp2_with fail
    refine HS.out.mono ?_
    rintro e w' ⟨rfl, hw⟩
    obtain rfl := hw.symm
    go_wp2
    go_ret2
    exact ⟨rfl, rfl⟩

set_option maxRecDepth 100000 in
set_option maxHeartbeats 3200000 in
theorem refRows_any (s : Sh) (pl : Option Addr) (bl ol n cl : Nat) (z : Nat → Int) (w : World) (hs : Rd w s) (ms : isM s = true) (hpl : ∀ k, k < n → pl = some ⟨bl, ol, none⟩)
    (hl : ∀ k, k < n → w.cell? ⟨bl, ol + k, none⟩ = some (.int .i64 (z k))) (h1 : 1 ≤ (n : Int)) (h2 : (n : Int) ≤ 255) :
    Calls Tryd.prog 25 #[.slice s.g s.G s.cap, .slice pl n cl] w fun e w' => Kp (fun _ => False) w w' ∧
      ((e = .returned (.tuple #[.slice none 0 0, .int .i64 1]) ∧ ¬ ∀ k, k < n → Good s.G (z k)) ∨ ∃ v, e = .returned (.tuple #[v, .int .i64 0]) ∧ (∀ k, k < n → Good s.G (z k)) ∧ Mx w' v n (s.L 0) (fun r => s.M (z r).toNat)) := by
  obtain ⟨a1, a2, a3, a4, a5⟩ := isM_true ms
  have HS : Hid (Calls _ _ _ w _) := refIs_any s w hs
  rw [ms] at HS
  have HG1 := hs.at0 (by omega)
  rw [HG1] at HS ⊢
  obtain rfl := hpl 0 (by omega)
  have HA : Hid (∀ r, r < s.G → s.L r = s.L 0) := a5
  have d1 : decide ((n : Int) < 1) = false := by simp; omega
  have d2 : decide (255 < (n : Int)) = false := by simp; omega
  obtain ⟨ti, hi0, hz0, hz1, hz2⟩ := info_parts info42
  obtain ⟨tb, hb0, hy0, hy1, hy2⟩ := info_parts info5
  obtain ⟨s2, hs2⟩ : ∃ x : Sh, x = ⟨none, n, n, 0, 0, fun _ => none, fun _ => s.L 0, fun _ => 0, fun _ => 0, fun _ => 0, fun r => s.M (z r).toNat⟩ := ⟨_, rfl⟩
  have HL2 : Hid (∀ k, s2.L k = s.L 0) := fun k => by rw [hs2]
  have HM2 : Hid (∀ k, s2.M k = s.M (z k).toNat) := fun k => by rw [hs2]
  have HG2 : Hid (s2.G = n) := by rw [hs2]; rfl
  clear ms HG1 a5 hs2
  go_enter Tryd.func25, Tryd.ntmps25
  go_wp2_with fail
  refine HS.out.mono ?_
  rintro e w' ⟨rfl, hw⟩
  obtain rfl := hw.symm
  go_wp2
  clear HS d1 d2
  go_loopg [6, 24] n (fun gk v i wr => ∃ (k : Nat) (A : Nat → Option Addr) (C RB : Nat → Nat), k ≤ n ∧ gk = n - k ∧ i = .int .i64 k ∧ Hid (∀ j, j < k → Good s.G (z j)) ∧ TxA w wr s2 v k A C RB)
  case atStart => exact ⟨0, _, _, _, Nat.zero_le _, rfl, rfl, fun k hk => absurd hk (Nat.not_lt_zero _), TxA.start w s2⟩
  case round =>
    obtain ⟨k, A, C, RB, hk, rfl, rfl, hgd, hT⟩ := hrel
    by_cases hlt : (k : Int) < (n : Int)
    · have f1 := hT.kept.cellv (hl k (by omega)) id
      by_cases hz0' : z k < 0
      · have d1 : decide (z k < 0) = true := by simp; omega
        have HBd : Hid (¬ Good s.G (z k)) := fun h => by have := h.1; omega
        have hkn : k < n := by omega
        go_wp2
        go_ret2
        exact ⟨hT.kept, Or.inl ⟨rfl, by first | exact ⟨k, hkn, HBd.out⟩ | exact fun h => HBd.out (h k hkn)⟩⟩
      · have d1 : decide (z k < 0) = false := by simp; omega
        by_cases hzG : (s.G : Int) ≤ z k
        · have d2 : decide ((s.G : Int) ≤ z k) = true := by simp; omega
          have HBd : Hid (¬ Good s.G (z k)) := fun h => by have := h.2; omega
          have hkn : k < n := by omega
          go_wp2
          go_ret2
          exact ⟨hT.kept, Or.inl ⟨rfl, by first | exact ⟨k, hkn, HBd.out⟩ | exact fun h => HBd.out (h k hkn)⟩⟩
        · obtain ⟨l, hl2⟩ : ∃ l : Nat, z k = (l : Int) := ⟨(z k).toNat, by omega⟩
          have hGr : Hid (Good s.G (z k)) := ⟨by omega, by omega⟩
          have htn : Hid ((z k).toNat = l) := by show _ = _; omega
          have hlr : l < s.G := by omega
          rw [hl2] at f1
          have c1 := hT.kept.cellv (hs.hd l hlr) id
          rw [HA.out l hlr, hs.to l hlr 0 (by rw [HA.out l hlr]; omega)] at c1
          have d1' : decide ((l : Int) < 0) = false := by simp
          have d2' : decide ((s.G : Int) ≤ (l : Int)) = false := by simp; omega
          have d3' : (l : Int) < (s.G : Int) := by omega
          have HC : Hid (∀ j u, (vals (s.M l) (s.L 0))[j]? = some u → (wr.alloc (.cells #[] 5)).cell? ((⟨s.RB l, s.RO l, none⟩ : Addr).add j) = some u) := fun j u hj => by
            obtain ⟨hj', rfl⟩ := vals_get hj
            rw [addr_add]
            exact ((Kp.refl (fun _ => False) wr).alloc _).cellv (hT.kept.cellv (hs.cell l hlr j (by rw [HA.out l hlr]; exact hj')) id) id
          have hcl : (wr.alloc (.cells #[] 5)).cell? ⟨s.gb, s.go + l, none⟩ = some (.slice (some ⟨s.RB l, s.RO l, none⟩) (s.L 0) (s.C l)) := ((Kp.refl (fun _ => False) wr).alloc _).cellv c1 id
          have hO := hT.own
          have hwz := hT.kept.size
          clear hl2 d1 hz0' hzG
          go_wp2_with (at_builtin; go_must (refine wpList_append_own_at _ rfl _ _ 30 rfl wr.heap.size 5 tb (.int .u8 0) 1 1 Tryd.underlying30 hb0 hy0 hy1 hy2 rfl (by decide) _ _ _ rfl (empty_own wr) ⟨s.RB l, s.RO l, none⟩ (s.L 0) (s.C l) (vals (s.M l) (s.L 0)) rfl (by simp [vals_length]) HC.out (vals_one _ (s.L 0)) (by unfold maxLen; omega) (by omega) (by simp) ?_))
          intro v' w3 hown' hgrow3 hnil3 hblk3
          have hown2 : w3.ownsRow wr.heap.size 5 1 v' (s.L 0) (vals (s.M l) (s.L 0)) := by simpa using hown'
          have k3 : Kp (fun _ => False) wr w3 := Kp.trans ((Kp.refl _ _).alloc _) (grownBy_kp hgrow3) (fun b hb e => by
            have e' : some wr.heap.size = some b := e
            have := Option.some.inj e'
            omega)
          obtain ⟨p, c', b, rfl, hrow⟩ := own_row hown2
          have hO3 := ownsRow_keep hO k3
          have hw3 := k3.size
          have HR : Hid (0 < s2.L k → p = some ⟨b, 0, none⟩ ∧ wr.heap.size ≤ b ∧ s2.L k ≤ c' ∧ RowB w3 b c' (s2.L k) (s2.M k)) := by
            show 0 < s2.L k → _
            rw [HL2.out, HM2.out, htn.out]; exact hrow
          have HT : Hid (TxA w wr _ _ _ _ _ _) := hT
          clear hrow HC c1 hcl hO hT hown' hown2 hgrow3 hnil3 hblk3
          go_wp2_with (at_builtin; go_must (refine wpList_append_own_at _ rfl _ _ 24 rfl w.heap.size 30 ti (.slice none 0 0) 1 24 Tryd.underlying24 hi0 hz0 hz1 hz2 rfl (by decide) _ _ _ rfl (hO3.alloc _) ⟨w3.heap.size, 0, none⟩ 1 1 [.slice p (s.L 0) c'] rfl rfl (cell_one_new _ _ _) (fun x hx => by simp at hx; subst hx; rfl) (by unfold maxLen; omega) (by omega) (by simp; omega) ?_); intro v4 w4 hown4 hgrow4 hnil4 hblk4)
          go_roundg (n - (k + 1))
          case rel => exact ⟨k + 1, _, _, _, by omega, rfl, by go_num, fun j hj => by
            by_cases e : j = k
            · rw [e]; exact hGr.out
            · exact hgd.out j (by omega), HT.out.step k3 HR.out (by rw [HL2.out]; exact hown4) hgrow4 hblk4⟩
          case measure => omega
    · have e : k = n := by omega
      have hk2 : k = s2.G := by rw [HG2.out]; exact e
      have hb : ∀ r c, s2.M r c < 256 := fun r c => by rw [HM2.out]; exact hs.byte _ _
      have HGd : Hid (∀ j, j < n → Good s.G (z j)) := fun j hj => hgd.out j (by omega)
      have hkp := hT.kept
      rw [hk2] at hT
      obtain ⟨g, cap, gb, rfl, hOw⟩ := hT.done hb
      have HMx : Hid (Mx wr (.slice g s2.G cap) n (s.L 0) (fun r => s.M (z r).toNat)) := ⟨_, rfl, hOw.rd, HG2.out, fun r _ => HL2.out r, by funext r; exact HM2.out r⟩
      clear hT hOw hs hb hk2 HA
      go_wp2
      go_ret2
      exact ⟨hkp, Or.inr ⟨_, rfl, HGd.out, HMx.out⟩⟩
end Go.Proofs.YtbmhfclknilcoaaDoor
