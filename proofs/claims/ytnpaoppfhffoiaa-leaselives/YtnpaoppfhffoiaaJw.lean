/- LeaseEnds. -/
import Derived.Test.YtnpaoppfhffoiaaJv
namespace Go.Proofs.Ytnpaoppfhffoiaa
set_option linter.unusedVariables false
set_option linter.unusedSimpArgs false
open Go.RowKit Go.Deep Go.Maps Go.Shelf Go.Lib Go.Sort

theorem md_eq2 (k n : Int) (hk : 0 < k) (hk2 : k ≤ 4611686018427387904) : ∃ m : Int, wrap64 ((IntKind.u64.wrap n).tmod k) = m ∧ 0 ≤ m ∧ m < k := by
  have h0 : 0 ≤ IntKind.u64.wrap n := by rw [IntKind.wrap_u64]; omega
  rw [Int.tmod_eq_emod_of_nonneg h0]
  have h1 := Int.emod_nonneg (IntKind.u64.wrap n) (by omega : k ≠ 0)
  have h2 := Int.emod_lt_of_pos (IntKind.u64.wrap n) hk
  refine ⟨IntKind.u64.wrap n % k, ?_, h1, h2⟩
  unfold wrap64
  generalize IntKind.u64.wrap n % k = q at h1 h2
  omega
theorem waits_id {t : Int} (h0 : 0 ≤ t) (h1 : t ≤ 1099511627776) : waits t = t := by unfold waits; omega
theorem srt_one (x : Int × Int) : srtP [x] = [x] := by
  have h := List.mergeSort_perm [x] (fun a b => !(ltOf ris) b a)
  exact List.perm_singleton.1 h
theorem srt_nil : srtP [] = [] := List.eq_nil_of_length_eq_zero (srtP_len [])
/-- one that waits: it is due, or not -/
theorem due_no {ds l' : List Wt} {e : Wt} {t : Int} (hp : (ds ++ l').Perm [e]) (h1 : ∀ x ∈ ds, x.t ≤ t) (ht : t < e.t) : ds = [] ∧ l' = [e] := by
  have he := List.perm_singleton.1 hp
  cases ds with
  | nil => exact ⟨rfl, he⟩
  | cons d ds =>
    simp at he
    have := h1 d (by simp)
    rw [he.1] at this
    omega
theorem due_yes {ds l' : List Wt} {e : Wt} {t : Int} (hp : (ds ++ l').Perm [e]) (h1 : ∀ x ∈ l', t < x.t) (ht : e.t ≤ t) : ds = [e] ∧ l' = [] := by
  have he := List.perm_singleton.1 hp
  cases ds with
  | nil =>
    simp at he
    have := h1 e (by rw [he]; simp)
    omega
  | cons d ds =>
    simp at he
    exact ⟨by rw [he.1, he.2.1], he.2.2⟩
theorem due_nil {ds l' : List Wt} (hp : (ds ++ l').Perm []) : ds = [] ∧ l' = [] := by
  have := List.Perm.eq_nil hp
  simpa using this
/-- [][2]int{{a, b}} -/
theorem Pr.lit (w : World) (a b : Int) : Pr (w.alloc (.cells #[.int .i64 a, .int .i64 b] 39)) (fun g => g = w.heap.size) (.slice (some ⟨w.heap.size, 0, none⟩) 1 1) [(a, b)] := by
  have hl : Lv (w.alloc (.cells #[.int .i64 a, .int .i64 b] 39)) w.heap.size [.int .i64 a, .int .i64 b] := Lv.new w _ _
  refine ⟨_, 1, rfl, fun j hj => ⟨w.heap.size, 0, rfl, rfl, ?_, ?_⟩⟩
  · have : j = 0 := by simpa using hj
    subst this
    exact hl.cell (j := 0) rfl
  · have : j = 0 := by simpa using hj
    subst this
    exact hl.cell (j := 1) rfl

set_option maxRecDepth 100000 in
set_option maxHeartbeats 3200000 in
theorem leaseEnds_walk (bl ix now : Int) (kept : Bool) (w : World) (h1 : (Lit.int .i64 bl).wf = true) (h2 : (Lit.int .i64 ix).wf = true) : Calls Try.prog 5 #[.int .i64 bl, .int .i64 ix, .int .i64 now, .bool kept] w fun e w' => e = .returned (.bool true) ∧ Kp (fun _ => False) w w' := by
  have HN : Hid (∀ w, Calls _ _ _ w _) := fun w => lnew_ok w
  have HWF : Hid (wf2 bl ix) := ⟨h1, h2⟩
  clear h1 h2
  obtain ⟨nw, hnw, hn0, hn1⟩ := md_eq2 549755813888 now (by omega) (by omega)
  have hwn : waits nw = nw := waits_id hn0 (by omega)
  have hw82 : waits (nw + 82) = nw + 82 := waits_id (by omega) (by omega)
  have hw83 : waits (nw + 83) = nw + 83 := waits_id (by omega) (by omega)
  have hw88 : waits (nw + 88) = nw + 88 := waits_id (by omega) (by omega)
  have HWT : Hid (waits nw = nw ∧ waits (nw + 82) = nw + 82 ∧ waits (nw + 83) = nw + 83 ∧ waits (nw + 88) = nw + 88) := ⟨hwn, hw82, hw83, hw88⟩
  have u1 : wrap64 (nw + 83) = nw + 83 := by unfold wrap64; omega
  have u2 : wrap64 (nw + 83 - 1) = nw + 82 := by unfold wrap64; omega
  have u3 : wrap64 (nw + 82) = nw + 82 := by unfold wrap64; omega
  have u4 : wrap64 (nw + 83 + 5) = nw + 88 := by unfold wrap64; omega
  have u5 : wrap64 (nw + 88) = nw + 88 := by unfold wrap64; omega
  have e40 : 2 * waits 40 + 3 = 83 := by unfold waits; omega
  have HD := fun w => wait_ok 40 w
  rw [e40] at HD
  have HD : Hid (∀ w, Calls _ _ _ w _) := HD
  clear hwn hw82 hw83 hw88 hn0 hn1 e40
  go_enter Try.func5, Try.ntmps5
  go_wp2_with fail
  refine (HN.out _).mono ?_
  rintro e w1 ⟨L, h, m, rfl, k1, x1, b1⟩
  have HB : Hid (∀ b, Ls L h m (.slice none 0 0) b → w.heap.size ≤ b) := b1
  have HR : Hid (Calls _ _ _ w1 _) := lretire_ok x1 bl ix nw (by simp) HWF.out
  have HK1 : Hid (Kp (fun _ => False) w w1) := k1
  clear k1 x1 b1 HN
  go_wp2_with fail
  refine HR.out.mono ?_
  rintro e w2 ⟨rfl, k2, v2, l2, x2, p2, b2⟩
  have hl2 : l2 = [⟨bl, ix, nw + 83⟩] := by
    have e1 : addW [] ⟨bl, ix, waits nw + 83⟩ = [⟨bl, ix, waits nw + 83⟩] := by unfold addW; rw [if_neg (by simp)]; rfl
    rw [e1, HWT.out.1] at p2
    exact List.perm_singleton.1 p2
  subst hl2
  have HK2 : Hid (Kp (fun _ => False) w w2 ∧ ∀ b, Ls L h m v2 b → w.heap.size ≤ b) := by
    have hb := HB.out
    refine ⟨HK1.out.trans k2 (fun b hb' e => by have := hb b (Or.inr e); omega), fun b e => ?_⟩
    rcases e with e | e | e | e
    · exact hb b (Or.inl e)
    · exact hb b (Or.inr (Or.inl e))
    · exact hb b (Or.inr (Or.inr (Or.inl e)))
    · rcases b2 with b2 | ⟨g, b2, b3⟩
      · rw [b2] at e; cases e
      · rw [b2] at e
        injection e with e
        have := HK1.out.size
        omega
  have HX2 : Hid (Lz w2 L h m v2 [⟨bl, ix, nw + 83⟩]) := x2
  clear HR k2 x2 p2 b2 HK1 HB
  go_wp2_with fail
  refine (HD.out _).mono ?_
  rintro e w2' ⟨rfl, rfl⟩
  have HE3 : Hid (Calls _ _ _ w2' _) := ldue_ok HX2.out (nw + 82) (by simp)
  go_wp2_with fail
  refine HE3.out.mono ?_
  rintro e w3 ⟨rv3, ds3, rfl, k3, p3, v3, l3, x3, q3, t3, _, b3⟩
  obtain ⟨rfl, rfl⟩ : ds3 = [] ∧ l3 = [⟨bl, ix, nw + 83⟩] := due_no q3 t3 (by rw [HWT.out.2.1]; show nw + 82 < nw + 83; omega)
  rw [show srtP (List.map key []) = [] from srt_nil] at p3
  obtain ⟨pp3, cap3, rfl, _⟩ := p3
  have HK3 : Hid (Kp (fun _ => False) w w3 ∧ ∀ b, Ls L h m v3 b → w.heap.size ≤ b) := ⟨HK2.out.1.trans k3 (fun b hb e => by have := HK2.out.2 b (Or.inr e); omega), fun b e => HK2.out.2 b (by
    rcases e with e | e | e | e
    · exact Or.inl e
    · exact Or.inr (Or.inl e)
    · exact Or.inr (Or.inr (Or.inl e))
    · exact Or.inr (Or.inr (Or.inr (b3 ▸ e))))⟩
  have HX3 : Hid (Lz w3 L h m v3 [⟨bl, ix, nw + 83⟩]) := x3
  have HE4 : Hid (Calls _ _ _ w3 _) := lall_ok x3 (by simp)
  clear HE3 k3 x3 q3 t3 b3 HX2 HK2
  simp only [List.length_nil]
  go_wp2_with fail
  refine HE4.out.mono ?_
  rintro e w4 ⟨rv4, rfl, k4, p4⟩
  rw [show srtP (List.map key [⟨bl, ix, nw + 83⟩]) = [(bl, ix)] from srt_one _] at p4
  have HK4 : Hid (Kp (fun _ => False) w w4) := HK3.out.1.trans k4 (fun _ _ e => e)
  have HX4 : Hid (Lz w4 L h m v3 [⟨bl, ix, nw + 83⟩]) := HX3.out.keep0 k4
  have ka : Kp (fun _ => False) w4 (w4.alloc (.cells #[.int .i64 bl, .int .i64 ix] 39)) := (Kp.refl _ _).alloc _
  have HE5 : Hid (Calls _ _ _ (w4.alloc (.cells #[.int .i64 bl, .int .i64 ix] 39)) _) := pequal (p4.keep ka (fun _ _ _ e => e)) (Pr.lit w4 bl ix) (by simp)
  have KA : Hid (Kp (fun _ => False) w4 (w4.alloc (.cells #[.int .i64 bl, .int .i64 ix] 39))) := ka
  clear k4 p4 HE4 HX3 ka
  go_wp2_with fail
  refine HE5.out.mono ?_
  rintro e w5 ⟨rfl, k5⟩
  have HK5 : Hid (Kp (fun _ => False) w w5) := (HK4.out.trans KA.out (fun _ _ e => e)).trans k5 (fun _ _ e => e)
  have HX5 : Hid (Lz w5 L h m v3 [⟨bl, ix, nw + 83⟩]) := (HX4.out.keep0 KA.out).keep0 k5
  have HB5 : Hid (∀ b, Ls L h m v3 b → w.heap.size ≤ b) := HK3.out.2
  clear k5 HE5 HX4 HK4 KA HK3
  cases kept with
  | true =>
    have HE6 : Hid (Calls _ _ _ w5 _) := lkeep_ok HX5.out bl ix (by simp) HWF.out
    go_wp2_with fail
    refine HE6.out.mono ?_
    rintro e w6 ⟨rfl, k6, v6, l6, x6, p6, b6⟩
    have hl6 : l6 = [] := by
      have e1 : dropW [⟨bl, ix, nw + 83⟩] bl ix = [] := by unfold dropW; rw [List.filter_cons_of_neg (by simp [key])]; rfl
      rw [e1] at p6
      exact List.Perm.eq_nil p6
    subst hl6
    have HK6 : Hid (Kp (fun _ => False) w w6 ∧ ∀ b, Ls L h m v6 b → w.heap.size ≤ b) := ⟨HK5.out.trans k6 (fun b hb e => by have := HB5.out b (Or.inr e); omega), fun b e => HB5.out b (by
      rcases e with e | e | e | e
      · exact Or.inl e
      · exact Or.inr (Or.inl e)
      · exact Or.inr (Or.inr (Or.inl e))
      · exact Or.inr (Or.inr (Or.inr (b6 ▸ e))))⟩
    have HE7 : Hid (Calls _ _ _ w6 _) := ldue_ok x6 (nw + 83) (by simp)
    clear HE6 k6 x6 p6 b6 HX5 HK5
    go_wp2_with fail
    refine HE7.out.mono ?_
    rintro e w7 ⟨rv7, ds7, rfl, k7, p7, v7, l7, x7, q7, _, _, b7⟩
    obtain ⟨rfl, rfl⟩ := due_nil q7
    rw [show srtP (List.map key []) = [] from srt_nil] at p7
    obtain ⟨pp7, cap7, rfl, _⟩ := p7
    have HK7 : Hid (Kp (fun _ => False) w w7) := HK6.out.1.trans k7 (fun b hb e => by have := HK6.out.2 b (Or.inr e); omega)
    have HE8 : Hid (Calls _ _ _ w7 _) := lall_ok x7 (by simp)
    clear HE7 k7 x7 q7 b7
    simp only [List.length_nil]
    go_wp2_with fail
    refine HE8.out.mono ?_
    rintro e w8 ⟨rv8, rfl, k8, p8⟩
    rw [show srtP (List.map key []) = [] from srt_nil] at p8
    obtain ⟨pp8, cap8, rfl, _⟩ := p8
    have HK8 : Hid (Kp (fun _ => False) w w8) := HK7.out.trans k8 (fun _ _ e => e)
    clear k8 HE8
    simp only [List.length_nil]
    go_wp2
    go_ret
    exact ⟨rfl, HK8.out⟩
  | false =>
    have HE6 : Hid (Calls _ _ _ w5 _) := ldue_ok HX5.out (nw + 83) (by simp)
    go_wp2_with fail
    refine HE6.out.mono ?_
    rintro e w6 ⟨rv6, ds6, rfl, k6, p6, v6, l6, x6, q6, _, t6, b6⟩
    obtain ⟨rfl, rfl⟩ : ds6 = [⟨bl, ix, nw + 83⟩] ∧ l6 = [] := due_yes q6 t6 (by rw [HWT.out.2.2.1]; exact Int.le_refl _)
    rw [show srtP (List.map key [⟨bl, ix, nw + 83⟩]) = [(bl, ix)] from srt_one _] at p6
    have HK6 : Hid (Kp (fun _ => False) w w6 ∧ ∀ b, Ls L h m v6 b → w.heap.size ≤ b) := ⟨HK5.out.trans k6 (fun b hb e => by have := HB5.out b (Or.inr e); omega), fun b e => HB5.out b (by
      rcases e with e | e | e | e
      · exact Or.inl e
      · exact Or.inr (Or.inl e)
      · exact Or.inr (Or.inr (Or.inl e))
      · exact Or.inr (Or.inr (Or.inr (b6 ▸ e))))⟩
    have ka : Kp (fun _ => False) w6 (w6.alloc (.cells #[.int .i64 bl, .int .i64 ix] 39)) := (Kp.refl _ _).alloc _
    have HE7 : Hid (Calls _ _ _ (w6.alloc (.cells #[.int .i64 bl, .int .i64 ix] 39)) _) := pequal (p6.keep ka (fun _ _ _ e => e)) (Pr.lit w6 bl ix) (by simp)
    have KA : Hid (Kp (fun _ => False) w6 (w6.alloc (.cells #[.int .i64 bl, .int .i64 ix] 39))) := ka
    have HX6 : Hid (Lz w6 L h m v6 []) := x6
    clear HE6 k6 x6 p6 b6 q6 t6 HX5 HK5 ka
    go_wp2_with fail
    refine HE7.out.mono ?_
    rintro e w7 ⟨rfl, k7⟩
    have HK7 : Hid (Kp (fun _ => False) w w7) := (HK6.out.1.trans KA.out (fun _ _ e => e)).trans k7 (fun _ _ e => e)
    have HX7 : Hid (Lz w7 L h m v6 []) := (HX6.out.keep0 KA.out).keep0 k7
    have HE8 : Hid (Calls _ _ _ w7 _) := ldue_ok HX7.out (nw + 88) (by simp)
    clear HE7 k7 HX6 KA
    go_wp2_with fail
    refine HE8.out.mono ?_
    rintro e w8 ⟨rv8, ds8, rfl, k8, p8, v8, l8, x8, q8, _, _, b8⟩
    obtain ⟨rfl, rfl⟩ := due_nil q8
    rw [show srtP (List.map key []) = [] from srt_nil] at p8
    obtain ⟨pp8, cap8, rfl, _⟩ := p8
    have HK8 : Hid (Kp (fun _ => False) w w8) := HK7.out.trans k8 (fun b hb e => by have := HK6.out.2 b (Or.inr e); omega)
    have HE9 : Hid (Calls _ _ _ w8 _) := lall_ok x8 (by simp)
    clear HE8 k8 x8 q8 b8
    simp only [List.length_nil]
    go_wp2_with fail
    refine HE9.out.mono ?_
    rintro e w9 ⟨rv9, rfl, k9, p9⟩
    rw [show srtP (List.map key []) = [] from srt_nil] at p9
    obtain ⟨pp9, cap9, rfl, _⟩ := p9
    have HK9 : Hid (Kp (fun _ => False) w w9) := HK8.out.trans k9 (fun _ _ e => e)
    clear k9 HE9
    simp only [List.length_nil]
    go_wp2
    go_ret
    exact ⟨rfl, HK9.out⟩
end Go.Proofs.Ytnpaoppfhffoiaa
