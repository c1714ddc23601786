/- LeaseFirst. -/
import Derived.Test.YtjjghgbegecbeaaJw
namespace Go.Proofs.Ytjjghgbegecbeaa
set_option linter.unusedVariables false
set_option linter.unusedSimpArgs false
open Go.RowKit Go.Deep Go.Maps Go.Shelf Go.Lib Go.Sort

theorem lsub {L h m : Nat} {v v' : Value} (e : v'.ownBlock = v.ownBlock) {b : Nat} (hb : Ls L h m v' b) : Ls L h m v b := by
  rcases hb with hb | hb | hb | hb
  · exact Or.inl hb
  · exact Or.inr (Or.inl hb)
  · exact Or.inr (Or.inr (Or.inl hb))
  · exact Or.inr (Or.inr (Or.inr (e ▸ hb)))
theorem lgrow {n L h m : Nat} {v v' : Value} {w0 w1 : World} (hb : ∀ b, Ls L h m v b → n ≤ b) (hn : n ≤ w1.heap.size) (b2 : v'.ownBlock = v.ownBlock ∨ ∃ g, v'.ownBlock = some g ∧ w1.heap.size ≤ g) : ∀ b, Ls L h m v' b → n ≤ b := fun b e => by
  rcases b2 with b2 | ⟨g, b2, b3⟩
  · exact hb b (lsub b2 e)
  · rcases e with e | e | e | e
    · exact hb b (Or.inl e)
    · exact hb b (Or.inr (Or.inl e))
    · exact hb b (Or.inr (Or.inr (Or.inl e)))
    · rw [b2] at e
      injection e with e
      omega

set_option maxRecDepth 100000 in
set_option maxHeartbeats 3200000 in
theorem leaseFirst_walk (bl ix now later : Int) (w : World) (h1 : (Lit.int .i64 bl).wf = true) (h2 : (Lit.int .i64 ix).wf = true) : Calls Try.prog 8 #[.int .i64 bl, .int .i64 ix, .int .i64 now, .int .i64 later] w fun e w' => e = .returned (.bool true) ∧ Kp (fun _ => False) w w' := by
  have HN : Hid (∀ w, Calls _ _ _ w _) := fun w => lnew_ok w
  have HWF : Hid (wf2 bl ix) := ⟨h1, h2⟩
  clear h1 h2
  obtain ⟨nw, hnw, hn0, hn1⟩ := md_eq2 1000 now (by omega) (by omega)
  obtain ⟨lt, hlt, hl0, hl1⟩ := md_eq2 1000 later (by omega) (by omega)
  have HWT : Hid (waits nw = nw ∧ waits (nw + 82) = nw + 82 ∧ waits (nw + 83) = nw + 83 ∧ waits (nw + 83 + lt) = nw + 83 + lt) := ⟨waits_id (by omega) (by omega), waits_id (by omega) (by omega), waits_id (by omega) (by omega), waits_id (by omega) (by omega)⟩
  have u0 : wrap64 (nw + lt) = nw + lt := by unfold wrap64; omega
  have u1 : wrap64 (nw + 83) = nw + 83 := by unfold wrap64; omega
  have u2 : wrap64 (nw + 83 - 1) = nw + 82 := by unfold wrap64; omega
  have u3 : wrap64 (nw + 82) = nw + 82 := by unfold wrap64; omega
  have u4 : wrap64 (nw + 83 + lt) = nw + 83 + lt := by unfold wrap64; omega
  have e40 : 2 * waits 40 + 3 = 83 := by unfold waits; omega
  have HD := fun w => wait_ok 40 w
  rw [e40] at HD
  have HD : Hid (∀ w, Calls _ _ _ w _) := HD
  clear hn0 hn1 hl0 hl1 e40
  go_enter Try.func8, Try.ntmps8
  go_wp2_with fail
  refine (HN.out _).mono ?_
  rintro e w1 ⟨L, h, m, rfl, k1, x1, b1⟩
  have HB : Hid (∀ b, Ls L h m (.slice none 0 0) b → w.heap.size ≤ b) := b1
  have HR : Hid (Calls _ _ _ w1 _) := lretire_ok x1 bl ix nw (by simp) HWF.out
  have HK1 : Hid (Kp (fun _ => False) w w1) := k1
  clear k1 x1 b1 HN
  go_wp2_with fail
  refine HR.out.mono ?_
  rintro e w2 ⟨rfl, k2, v2, l2, x2, p2, b2⟩
  have hl2 : l2 = [⟨bl, ix, nw + 83⟩] := by
    have e1 : addW [] ⟨bl, ix, waits nw + 83⟩ = [⟨bl, ix, waits nw + 83⟩] := by unfold addW; rw [if_neg (by simp)]; rfl
    rw [e1, HWT.out.1] at p2
    exact List.perm_singleton.1 p2
  subst hl2
  have HK2 : Hid (Kp (fun _ => False) w w2 ∧ ∀ b, Ls L h m v2 b → w.heap.size ≤ b) := ⟨HK1.out.trans k2 (fun b hb' e => by have := HB.out b (Or.inr e); omega), lgrow (w0 := w) HB.out HK1.out.size b2⟩
  have HR2 : Hid (Calls _ _ _ w2 _) := lretire_ok x2 bl ix (nw + lt) (by simp) HWF.out
  clear HR k2 x2 p2 b2 HK1 HB
  go_wp2_with fail
  refine HR2.out.mono ?_
  rintro e w3 ⟨rfl, k3, v3, l3, x3, p3, b3⟩
  have hl3 : l3 = [⟨bl, ix, nw + 83⟩] := by
    have e1 : addW [⟨bl, ix, nw + 83⟩] ⟨bl, ix, waits (nw + lt) + 83⟩ = [⟨bl, ix, nw + 83⟩] := by unfold addW; rw [if_pos (by simp [key])]
    rw [e1] at p3
    exact List.perm_singleton.1 p3
  subst hl3
  have HK3 : Hid (Kp (fun _ => False) w w3 ∧ ∀ b, Ls L h m v3 b → w.heap.size ≤ b) := ⟨HK2.out.1.trans k3 (fun b hb' e => by have := HK2.out.2 b (Or.inr e); omega), lgrow (w0 := w) HK2.out.2 HK2.out.1.size b3⟩
  have HX3 : Hid (Lz w3 L h m v3 [⟨bl, ix, nw + 83⟩]) := x3
  have HE4 : Hid (Calls _ _ _ w3 _) := lall_ok x3 (by simp)
  clear HR2 k3 x3 p3 b3 HK2
  go_wp2_with fail
  refine HE4.out.mono ?_
  rintro e w4 ⟨rv4, rfl, k4, p4⟩
  rw [show srtP (List.map key [⟨bl, ix, nw + 83⟩]) = [(bl, ix)] from srt_one _] at p4
  obtain ⟨pp4, cap4, rfl, _⟩ := p4
  have HK4 : Hid (Kp (fun _ => False) w w4) := HK3.out.1.trans k4 (fun _ _ e => e)
  have HX4 : Hid (Lz w4 L h m v3 [⟨bl, ix, nw + 83⟩]) := HX3.out.keep0 k4
  have HB4 : Hid (∀ b, Ls L h m v3 b → w.heap.size ≤ b) := HK3.out.2
  clear k4 HE4 HX3 HK3
  simp only [List.length_cons, List.length_nil]
  go_wp2_with fail
  refine (HD.out _).mono ?_
  rintro e w4' ⟨rfl, rfl⟩
  have HE5 : Hid (Calls _ _ _ w4' _) := ldue_ok HX4.out (nw + 82) (by simp)
  go_wp2_with fail
  refine HE5.out.mono ?_
  rintro e w5 ⟨rv5, ds5, rfl, k5, p5, v5, l5, x5, q5, t5, _, b5⟩
  obtain ⟨rfl, rfl⟩ : ds5 = [] ∧ l5 = [⟨bl, ix, nw + 83⟩] := due_no q5 t5 (by rw [HWT.out.2.1]; show nw + 82 < nw + 83; omega)
  rw [show srtP (List.map key []) = [] from srt_nil] at p5
  obtain ⟨pp5, cap5, rfl, _⟩ := p5
  have HK5 : Hid (Kp (fun _ => False) w w5 ∧ ∀ b, Ls L h m v5 b → w.heap.size ≤ b) := ⟨HK4.out.trans k5 (fun b hb e => by have := HB4.out b (Or.inr e); omega), fun b e => HB4.out b (lsub b5 e)⟩
  have HE6 : Hid (Calls _ _ _ w5 _) := ldue_ok x5 (nw + 83) (by simp)
  clear HE5 k5 x5 q5 t5 b5 HX4 HK4
  simp only [List.length_nil]
  go_wp2_with fail
  refine HE6.out.mono ?_
  rintro e w6 ⟨rv6, ds6, rfl, k6, p6, v6, l6, x6, q6, _, t6, b6⟩
  obtain ⟨rfl, rfl⟩ : ds6 = [⟨bl, ix, nw + 83⟩] ∧ l6 = [] := due_yes q6 t6 (by rw [HWT.out.2.2.1]; exact Int.le_refl _)
  rw [show srtP (List.map key [⟨bl, ix, nw + 83⟩]) = [(bl, ix)] from srt_one _] at p6
  have HK6 : Hid (Kp (fun _ => False) w w6 ∧ ∀ b, Ls L h m v6 b → w.heap.size ≤ b) := ⟨HK5.out.1.trans k6 (fun b hb e => by have := HK5.out.2 b (Or.inr e); omega), fun b e => HK5.out.2 b (lsub b6 e)⟩
  have ka : Kp (fun _ => False) w6 (w6.alloc (.cells #[.int .i64 bl, .int .i64 ix] 39)) := (Kp.refl _ _).alloc _
  have HE7 : Hid (Calls _ _ _ (w6.alloc (.cells #[.int .i64 bl, .int .i64 ix] 39)) _) := pequal (p6.keep ka (fun _ _ _ e => e)) (Pr.lit w6 bl ix) (by simp)
  have KA : Hid (Kp (fun _ => False) w6 (w6.alloc (.cells #[.int .i64 bl, .int .i64 ix] 39))) := ka
  have HX6 : Hid (Lz w6 L h m v6 []) := x6
  clear HE6 k6 x6 p6 b6 q6 t6 HK5 ka
  go_wp2_with fail
  refine HE7.out.mono ?_
  rintro e w7 ⟨rfl, k7⟩
  have HK7 : Hid (Kp (fun _ => False) w w7) := (HK6.out.1.trans KA.out (fun _ _ e => e)).trans k7 (fun _ _ e => e)
  have HX7 : Hid (Lz w7 L h m v6 []) := (HX6.out.keep0 KA.out).keep0 k7
  have HE8 : Hid (Calls _ _ _ w7 _) := ldue_ok HX7.out (nw + 83 + lt) (by simp)
  clear HE7 k7 HX6 KA
  go_wp2_with fail
  refine HE8.out.mono ?_
  rintro e w8 ⟨rv8, ds8, rfl, k8, p8, v8, l8, x8, q8, _, _, b8⟩
  obtain ⟨rfl, rfl⟩ := due_nil q8
  rw [show srtP (List.map key []) = [] from srt_nil] at p8
  obtain ⟨pp8, cap8, rfl, _⟩ := p8
  have HK8 : Hid (Kp (fun _ => False) w w8) := HK7.out.trans k8 (fun b hb e => by have := HK6.out.2 b (Or.inr e); omega)
  clear HE8 k8 x8 q8 b8
  simp only [List.length_nil]
  go_wp2
  go_ret
  exact ⟨rfl, HK8.out⟩
end Go.Proofs.Ytjjghgbegecbeaa
