/- Two shards that wait change places. -/
import Derived.Test.YtnpaoppfhffoiaaJd1
namespace Go.Proofs.Ytnpaoppfhffoiaa
set_option linter.unusedVariables false
open Go.RowKit Go.Deep Go.Maps

set_option maxRecDepth 100000 in
set_option maxHeartbeats 3200000 in
theorem wswap_ok {w : World} {h m : Nat} {v : Value} {l : List Wt} (x : Hw w h m v l) (i j : Nat) (hi : i < l.length) (hj : j < l.length) (hl : l.length ≤ 1000) :
    Calls Try.prog 93 #[.pointer (some ⟨h, 0, none⟩), .int .i64 i, .int .i64 j] w fun e w' => e = .returned (.tuple #[]) ∧ Kp (Hs h m v) w w' ∧ Hw w' h m v (swW l i j) := by
  obtain ⟨g, cap, rfl⟩ := x.form1 (by omega)
  have ci := x.cn hi
  have cj := x.cn hj
  have c0 := x.c0
  obtain ⟨xi, hxi⟩ : ∃ a, a = l.getD i wt0 := ⟨_, rfl⟩
  obtain ⟨xj, hxj⟩ : ∃ a, a = l.getD j wt0 := ⟨_, rfl⟩
  rw [← hxi] at ci
  rw [← hxj] at cj
  obtain ⟨ai, bi, ti⟩ := xi
  obtain ⟨aj, bj, tj⟩ := xj
  obtain ⟨ci1, ci2, ci3⟩ := ci
  obtain ⟨cj1, cj2, cj3⟩ := cj
  dsimp only at ci1 ci2 ci3 cj1 cj2 cj3
  have fz : ∀ k, w.frozen? ⟨g, k, none⟩ = false := fun k => own_frz0 x.o k
  have hgh : g ≠ h ∧ g ≠ m := x.ne g rfl
  obtain ⟨n, hn⟩ : ∃ n, n = l.length := ⟨_, rfl⟩
  obtain ⟨wf, hwf⟩ : ∃ y, y = (((((w.setCell ⟨g, i * 3, none⟩ (.int .i64 aj)).setCell ⟨g, i * 3 + 1, none⟩ (.int .i64 bj)).setCell ⟨g, i * 3 + 2, none⟩ (.int .i64 tj)).setCell ⟨g, j * 3, none⟩ (.int .i64 ai)).setCell ⟨g, j * 3 + 1, none⟩ (.int .i64 bi)).setCell ⟨g, j * 3 + 2, none⟩ (.int .i64 ti) := ⟨_, rfl⟩
  have hK : Kp (fun b => b = g) w wf := by rw [hwf]; exact ((((((Kp.refl (fun b => b = g) w).setCell (fun _ => rfl) _).setCell (fun _ => rfl) _).setCell (fun _ => rfl) _).setCell (fun _ => rfl) _).setCell (fun _ => rfl) _).setCell (fun _ => rfl) _
  have hO : wf.ownsRow 0 65 3 (.slice (some ⟨g, 0, none⟩) l.length cap) l.length (wflat (swW l i j)) := by
    have hml := wflat_len l
    have o1 := own_set0 x.o (i * 3) (.int .i64 aj) (by rw [hml]; omega)
    have o2 := own_set0 o1 (i * 3 + 1) (.int .i64 bj) (by rw [List.length_set, hml]; omega)
    have o3 := own_set0 o2 (i * 3 + 2) (.int .i64 tj) (by rw [List.length_set, List.length_set, hml]; omega)
    have o4 := own_set0 o3 (j * 3) (.int .i64 ai) (by simp only [List.length_set, hml]; omega)
    have o5 := own_set0 o4 (j * 3 + 1) (.int .i64 bi) (by simp only [List.length_set, hml]; omega)
    have o6 := own_set0 o5 (j * 3 + 2) (.int .i64 ti) (by simp only [List.length_set, hml]; omega)
    rw [← hwf] at o6
    have e1 := wflat_set l i (l.getD j wt0) hi
    have e2 := wflat_set (l.set i (l.getD j wt0)) j (l.getD i wt0) (by rw [List.length_set]; exact hj)
    rw [← hxj] at e1 e2
    rw [← hxi] at e2
    unfold swW
    rw [← hxi, ← hxj, e2, e1]
    exact o6
  have hw0 : ∀ k, k < (swW l i j).length → wf2 ((swW l i j).getD k wt0).b ((swW l i j).getD k wt0).i := fun k hk => by
    rw [swW_len] at hk
    rw [swW_getD l i j k hi hj]
    by_cases h1 : k = j
    · rw [if_pos h1]; exact x.wf i hi
    · rw [if_neg h1]
      by_cases h2 : k = i
      · rw [if_pos h2]; exact x.wf j hj
      · rw [if_neg h2]; exact x.wf k hk
  have wfi : wf2 ai bi := by have := x.wf i hi; rw [← hxi] at this; exact this
  have wfj : wf2 aj bj := by have := x.wf j hj; rw [← hxj] at this; exact this
  have hn0 : Onc (swW l i j) := fun p q hp hq h1 h2 => by
    rw [swW_len] at hp hq
    rw [swW_getD l i j p hi hj, swW_getD l i j q hi hj] at h1 h2
    have hnd := x.nd
    by_cases p1 : p = j
    · rw [if_pos p1] at h1 h2
      by_cases q1 : q = j
      · omega
      · rw [if_neg q1] at h1 h2
        by_cases q2 : q = i
        · rw [if_pos q2] at h1 h2; have := hnd i j hi hj h1 h2; omega
        · rw [if_neg q2] at h1 h2; have := hnd i q hi hq h1 h2; omega
    · rw [if_neg p1] at h1 h2
      by_cases p2 : p = i
      · rw [if_pos p2] at h1 h2
        by_cases q1 : q = j
        · rw [if_pos q1] at h1 h2; have := hnd j i hj hi h1 h2; omega
        · rw [if_neg q1] at h1 h2
          by_cases q2 : q = i
          · omega
          · rw [if_neg q2] at h1 h2; have := hnd j q hj hq h1 h2; omega
      · rw [if_neg p2] at h1 h2
        by_cases q1 : q = j
        · rw [if_pos q1] at h1 h2; have := hnd p i hp hi h1 h2; omega
        · rw [if_neg q1] at h1 h2
          by_cases q2 : q = i
          · rw [if_pos q2] at h1 h2; have := hnd p j hp hj h1 h2; omega
          · rw [if_neg q2] at h1 h2; exact hnd p q hp hq h1 h2
  obtain ⟨T, hT1, hT2⟩ := x.mp
  have hTi : (T ai bi).isSome = true := by have := hT2.1 i hi; rw [← hxi] at this; rw [this]; rfl
  have hTj : (T aj bj).isSome = true := by have := hT2.1 j hj; rw [← hxj] at this; rw [this]; rfl
  have hP : Pos (swW l i j) (upd2 (upd2 T aj bj (.int .i64 (i : Int))) ai bi (.int .i64 (j : Int))) := by
    refine ⟨fun k hk => ?_, fun a b hab => ?_⟩
    · have hk' := hk
      rw [swW_len] at hk'
      unfold upd2
      by_cases k1 : k = j
      · rw [swW_getD l i j k hi hj, if_pos k1, ← hxi, if_pos ⟨rfl, rfl⟩, k1]
      · by_cases k2 : k = i
        · rw [swW_getD l i j k hi hj, if_neg k1, if_pos k2, ← hxj]
          rw [if_neg (fun e => k1 (by have := x.nd i j hi hj (by rw [← hxi, ← hxj]; exact e.1.symm) (by rw [← hxi, ← hxj]; exact e.2.symm); omega)), if_pos ⟨rfl, rfl⟩, k2]
        · rw [swW_getD l i j k hi hj, if_neg k1, if_neg k2]
          rw [if_neg (fun e => k2 (x.nd k i hk' hi (by rw [← hxi]; exact e.1) (by rw [← hxi]; exact e.2))), if_neg (fun e => k1 (x.nd k j hk' hj (by rw [← hxj]; exact e.1) (by rw [← hxj]; exact e.2)))]
          exact hT2.1 k hk'
    · rw [swW_len] at hab
      unfold upd2
      have h1 := hab j hj
      have h2 := hab i hi
      rw [swW_getD l i j j hi hj, if_pos rfl, ← hxi] at h1
      rw [if_neg (fun e => h1 ⟨e.1.symm, e.2.symm⟩)]
      have h3 : ¬ (a = aj ∧ b = bj) := fun e => by
        by_cases ij : i = j
        · subst ij
          rw [← hxi] at hxj
          injection hxj with p1 p2 p3
          exact h1 ⟨by rw [e.1, p1], by rw [e.2, p2]⟩
        · rw [swW_getD l i j i hi hj, if_neg ij, if_pos rfl, ← hxj] at h2
          exact h2 ⟨e.1.symm, e.2.symm⟩
      rw [if_neg h3]
      refine hT2.2 a b (fun k hk e => ?_)
      by_cases k1 : k = j
      · exact h3 (by rw [k1, ← hxj] at e; exact ⟨e.1.symm, e.2.symm⟩)
      · by_cases k2 : k = i
        · exact h1 (by rw [k2, ← hxi] at e; exact e)
        · refine hab k hk ?_
          rw [swW_getD l i j k hi hj, if_neg k1, if_neg k2]
          exact e
  have HF : Hid (∀ y z : World, Kp (fun _ => False) wf y → Kp (fun b => b = m) y z → Px z m l.length (upd2 (upd2 T aj bj (.int .i64 (i : Int))) ai bi (.int .i64 (j : Int))) → Kp (Hs h m (.slice (some ⟨g, 0, none⟩) l.length cap)) w z ∧ Hw z h m (.slice (some ⟨g, 0, none⟩) l.length cap) (swW l i j)) := fun y z ky kz hz => by
    have k1 := hK.trans ky (fun _ _ e => e.elim)
    refine ⟨(k1.mono (fun b _ e => (Or.inr (Or.inr (by rw [e]; rfl)) : Hs h m _ b))).trans kz (fun b _ e => Or.inr (Or.inl e)), ⟨(x.lv.keep k1 (fun e => hgh.1 e.symm)).keep kz x.hm, ?_, ⟨_, by rw [swW_len]; exact hz, hP⟩, hn0, hw0, x.hm, x.ne⟩⟩
    rw [swW_len]
    exact ownsRow_keep (ownsRow_keep hO ky (fun _ _ => id)) kz (fun g' e e2 => by
      have e' : some g = some g' := e
      injection e' with e'
      exact hgh.2 (e'.trans e2))
  have HW : Hid (wf = (((((w.setCell ⟨g, i * 3, none⟩ (.int .i64 aj)).setCell ⟨g, i * 3 + 1, none⟩ (.int .i64 bj)).setCell ⟨g, i * 3 + 2, none⟩ (.int .i64 tj)).setCell ⟨g, j * 3, none⟩ (.int .i64 ai)).setCell ⟨g, j * 3 + 1, none⟩ (.int .i64 bi)).setCell ⟨g, j * 3 + 2, none⟩ (.int .i64 ti)) := hwf
  have HM : Hid (∀ y : World, Kp (fun _ => False) wf y → Px y m l.length T ∧ y.cell? ⟨h, 0, none⟩ = some (.slice (some ⟨g, 0, none⟩) l.length cap) ∧ y.cell? ⟨h, 1, none⟩ = some (.map (some m)) ∧ y.cell? ⟨g, i * 3, none⟩ = some (.int .i64 aj) ∧ y.cell? ⟨g, i * 3 + 1, none⟩ = some (.int .i64 bj) ∧ y.cell? ⟨g, j * 3, none⟩ = some (.int .i64 ai) ∧ y.cell? ⟨g, j * 3 + 1, none⟩ = some (.int .i64 bi)) := fun y ky => by
    have k1 := hK.trans ky (fun _ _ e => e.elim)
    have hl2 := x.lv.keep k1 (fun e => hgh.1 e.symm)
    have hO2 := ownsRow_keep hO ky (fun _ _ => id)
    have g1 := wflat_get (swW l i j) i (by rw [swW_len]; exact hi)
    have g2 := wflat_get (swW l i j) j (by rw [swW_len]; exact hj)
    rw [swW_getD l i j j hi hj, if_pos rfl, ← hxi] at g2
    have g3 : (swW l i j).getD i wt0 = ⟨aj, bj, tj⟩ := by
      rw [swW_getD l i j i hi hj]
      by_cases ij : i = j
      · rw [if_pos ij, hxj, ij]
      · rw [if_neg ij, if_pos rfl, ← hxj]
    rw [g3] at g1
    have q1 := hO2.cells (g := g) rfl (i * 3) _ g1.1
    have q2 := hO2.cells (g := g) rfl (i * 3 + 1) _ g1.2.1
    have q3 := hO2.cells (g := g) rfl (j * 3) _ g2.1
    have q4 := hO2.cells (g := g) rfl (j * 3 + 1) _ g2.2.1
    rw [Addr.add_mid, Nat.zero_add] at q1 q2 q3 q4
    exact ⟨hT1.keep k1 (fun e => hgh.2 e.symm), hl2.cell (j := 0) rfl, hl2.cell (j := 1) rfl, q1, q2, q3, q4⟩
  rw [← hn] at hi hj c0 HF HM hl ⊢
  have hi2 : (i : Int) < (n : Int) := by omega
  have hj2 : (j : Int) < (n : Int) := by omega
  have HT : Hid ((T ai bi).isSome = true ∧ (T aj bj).isSome = true ∧ wf2 ai bi ∧ wf2 aj bj ∧ n ≤ 1000) := ⟨hTi, hTj, wfi, wfj, hl⟩
  have HHM : Hid (h ≠ m) := x.hm
  have HIJ : Hid (i = j → ai = aj ∧ bi = bj ∧ ti = tj) := fun e => by
    rw [e, ← hxj] at hxi
    injection hxi with p1 p2 p3
    exact ⟨p1, p2, p3⟩
  have HHM : Hid (h ≠ m) := x.hm
  have HIJ : Hid (i = j → ai = aj ∧ bi = bj ∧ ti = tj) := fun e => by
    rw [e, ← hxj] at hxi
    injection hxi with p1 p2 p3
    exact ⟨p1, p2, p3⟩
  have HHM : Hid (h ≠ m) := x.hm
  have HIJ : Hid (i = j → ai = aj ∧ bi = bj ∧ ti = tj) := fun e => by
    rw [e, ← hxj] at hxi
    injection hxi with p1 p2 p3
    exact ⟨p1, p2, p3⟩
  have HHM : Hid (h ≠ m) := x.hm
  have HIJ : Hid (i = j → ai = aj ∧ bi = bj ∧ ti = tj) := fun e => by
    rw [e, ← hxj] at hxi
    injection hxi with p1 p2 p3
    exact ⟨p1, p2, p3⟩
  have HHM : Hid (h ≠ m) := x.hm
  have HIJ : Hid (i = j → ai = aj ∧ bi = bj ∧ ti = tj) := fun e => by
    rw [e, ← hxj] at hxi
    injection hxi with p1 p2 p3
    exact ⟨p1, p2, p3⟩
  have HHM : Hid (h ≠ m) := x.hm
  have HIJ : Hid (i = j → ai = aj ∧ bi = bj ∧ ti = tj) := fun e => by
    rw [e, ← hxj] at hxi
    injection hxi with p1 p2 p3
    exact ⟨p1, p2, p3⟩
  have HHM : Hid (h ≠ m) := x.hm
  have HIJ : Hid (i = j → ai = aj ∧ bi = bj ∧ ti = tj) := fun e => by
    rw [e, ← hxj] at hxi
    injection hxi with p1 p2 p3
    exact ⟨p1, p2, p3⟩
  clear x hn hxi hxj hK hO hw0 hn0 hT1 hT2 hTi hTj hP hwf wfi wfj hl
  have HG : Hid (g ≠ m) := hgh.2
  by_cases hij : i = j
  · subst hij
    obtain ⟨rfl, rfl, rfl⟩ : ai = aj ∧ bi = bj ∧ ti = tj := HIJ.out rfl
    have a1 : (w.setCell ⟨g, i * 3, none⟩ (.int .i64 ai)).cell? ⟨g, i * 3, none⟩ = some (.int .i64 ai) := World.cell?_setCell_same _ _ _ ci1
    have a2 : ((w.setCell ⟨g, i * 3, none⟩ (.int .i64 ai)).setCell ⟨g, i * 3 + 1, none⟩ (.int .i64 bi)).cell? ⟨g, i * 3 + 1, none⟩ = some (.int .i64 bi) := World.cell?_setCell_same _ _ _ (u := .int .i64 bi) (by rw [World.cell?_setCell_other _ _ _ _ (fun e => by injection e with _ e; omega)]; exact ci2)
    clear hgh
    go_enter Try.func93, Try.ntmps93
    go_wp2
    go_region
    have ky0 : Kp (fun _ => False) wf ((((((w.setCell ⟨g, i * 3, none⟩ (.int .i64 ai)).setCell ⟨g, i * 3 + 1, none⟩ (.int .i64 bi)).setCell ⟨g, i * 3 + 2, none⟩ (.int .i64 ti)).setCell ⟨g, i * 3, none⟩ (.int .i64 ai)).setCell ⟨g, i * 3 + 1, none⟩ (.int .i64 bi)).setCell ⟨g, i * 3 + 2, none⟩ (.int .i64 ti)).drew := by rw [← HW.out]; exact (Kp.refl _ _).drew
    obtain ⟨y, hy⟩ : ∃ y, y = ((((((w.setCell ⟨g, i * 3, none⟩ (.int .i64 ai)).setCell ⟨g, i * 3 + 1, none⟩ (.int .i64 bi)).setCell ⟨g, i * 3 + 2, none⟩ (.int .i64 ti)).setCell ⟨g, i * 3, none⟩ (.int .i64 ai)).setCell ⟨g, i * 3 + 1, none⟩ (.int .i64 bi)).setCell ⟨g, i * 3 + 2, none⟩ (.int .i64 ti)).drew := ⟨_, rfl⟩
    rw [← hy] at ky0 ⊢
    clear hy fz ci1 ci2 ci3 cj1 cj2 cj3 c0 HW a1 a2
    go_wp2_with fail
    refine sw_region ⟨by kernel_rfl, by kernel_rfl, by kernel_rfl, by kernel_rfl, by kernel_rfl, by kernel_rfl, by kernel_rfl, by kernel_rfl, by kernel_rfl, by kernel_rfl, by kernel_rfl, by kernel_rfl, by kernel_rfl, by kernel_rfl, by kernel_rfl, by kernel_rfl, by kernel_rfl⟩ h m g n cap i i ai bi ai bi T (fun d _ _ _ _ h => by cases d <;> exact h) (by rfl) (by rfl) (by rfl) (by rfl) hi2 hj2 HT.out.2.2.2.2 (HM.out y ky0).1 HT.out.2.2.1 HT.out.2.2.2.1 HT.out.1 HT.out.2.1 ⟨fun e => HHM.out e.symm, fun e => HG.out e.symm⟩ (HM.out y ky0).2 ?_
    intro a' z hd kz pz
    have HE : Hid (_ ∧ _) := HF.out y z ky0 kz pz
    clear HF HM ky0 kz pz
    refine bodyPost_end (results_none rfl _ _ _) hd ?_
    exact ⟨rfl, HE.out⟩
  · have n1 : ∀ p q, p < 3 → q < 3 → (⟨g, i * 3 + p, none⟩ : Addr) ≠ ⟨g, j * 3 + q, none⟩ := fun p q hp hq e => by injection e with _ e; omega
    have n00 : (⟨g, i * 3, none⟩ : Addr) ≠ ⟨g, j * 3, none⟩ := n1 0 0 (by omega) (by omega)
    have n01 : (⟨g, i * 3, none⟩ : Addr) ≠ ⟨g, j * 3 + 1, none⟩ := n1 0 1 (by omega) (by omega)
    have n02 : (⟨g, i * 3, none⟩ : Addr) ≠ ⟨g, j * 3 + 2, none⟩ := n1 0 2 (by omega) (by omega)
    have n10 : (⟨g, i * 3 + 1, none⟩ : Addr) ≠ ⟨g, j * 3, none⟩ := n1 1 0 (by omega) (by omega)
    have n11 : (⟨g, i * 3 + 1, none⟩ : Addr) ≠ ⟨g, j * 3 + 1, none⟩ := n1 1 1 (by omega) (by omega)
    have n12 : (⟨g, i * 3 + 1, none⟩ : Addr) ≠ ⟨g, j * 3 + 2, none⟩ := n1 1 2 (by omega) (by omega)
    have n20 : (⟨g, i * 3 + 2, none⟩ : Addr) ≠ ⟨g, j * 3, none⟩ := n1 2 0 (by omega) (by omega)
    have n21 : (⟨g, i * 3 + 2, none⟩ : Addr) ≠ ⟨g, j * 3 + 1, none⟩ := n1 2 1 (by omega) (by omega)
    have n22 : (⟨g, i * 3 + 2, none⟩ : Addr) ≠ ⟨g, j * 3 + 2, none⟩ := n1 2 2 (by omega) (by omega)
    obtain ⟨y1, hy1⟩ : ∃ y, y = w.setCell ⟨g, i * 3, none⟩ (.int .i64 aj) := ⟨_, rfl⟩
    obtain ⟨y2, hy2⟩ : ∃ y, y = y1.setCell ⟨g, i * 3 + 1, none⟩ (.int .i64 bj) := ⟨_, rfl⟩
    have a1 : y1.cell? ⟨g, j * 3, none⟩ = some (.int .i64 aj) := by rw [hy1, World.cell?_setCell_other _ _ _ _ n00]; exact cj1
    have a2 : y1.cell? ⟨g, j * 3 + 1, none⟩ = some (.int .i64 bj) := by rw [hy1, World.cell?_setCell_other _ _ _ _ n01]; exact cj2
    have a3 : y1.cell? ⟨g, j * 3 + 2, none⟩ = some (.int .i64 tj) := by rw [hy1, World.cell?_setCell_other _ _ _ _ n02]; exact cj3
    have b1 : y2.cell? ⟨g, j * 3, none⟩ = some (.int .i64 aj) := by rw [hy2, World.cell?_setCell_other _ _ _ _ n10]; exact a1
    have b2 : y2.cell? ⟨g, j * 3 + 1, none⟩ = some (.int .i64 bj) := by rw [hy2, World.cell?_setCell_other _ _ _ _ n11]; exact a2
    have b3 : y2.cell? ⟨g, j * 3 + 2, none⟩ = some (.int .i64 tj) := by rw [hy2, World.cell?_setCell_other _ _ _ _ n12]; exact a3
    have d1 : (y2.setCell ⟨g, i * 3 + 2, none⟩ (.int .i64 tj)).cell? ⟨g, j * 3, none⟩ = some (.int .i64 aj) := by rw [World.cell?_setCell_other _ _ _ _ n20]; exact b1
    have d2 : (y2.setCell ⟨g, i * 3 + 2, none⟩ (.int .i64 tj)).cell? ⟨g, j * 3 + 1, none⟩ = some (.int .i64 bj) := by rw [World.cell?_setCell_other _ _ _ _ n21]; exact b2
    have d3 : (y2.setCell ⟨g, i * 3 + 2, none⟩ (.int .i64 tj)).cell? ⟨g, j * 3 + 2, none⟩ = some (.int .i64 tj) := by rw [World.cell?_setCell_other _ _ _ _ n22]; exact b3
    rw [hy2] at b1 b2 b3 d1 d2 d3
    rw [hy1] at a1 a2 a3 b1 b2 b3 d1 d2 d3
    clear hy1 hy2 n1 n00 n01 n02 n10 n11 n12 n20 n21 n22 hgh hij
    go_enter Try.func93, Try.ntmps93
    go_wp2
    go_region
    have ky0 : Kp (fun _ => False) wf ((((((w.setCell ⟨g, i * 3, none⟩ (.int .i64 aj)).setCell ⟨g, i * 3 + 1, none⟩ (.int .i64 bj)).setCell ⟨g, i * 3 + 2, none⟩ (.int .i64 tj)).setCell ⟨g, j * 3, none⟩ (.int .i64 ai)).setCell ⟨g, j * 3 + 1, none⟩ (.int .i64 bi)).setCell ⟨g, j * 3 + 2, none⟩ (.int .i64 ti)).drew := by rw [← HW.out]; exact (Kp.refl _ _).drew
    obtain ⟨y, hy⟩ : ∃ y, y = ((((((w.setCell ⟨g, i * 3, none⟩ (.int .i64 aj)).setCell ⟨g, i * 3 + 1, none⟩ (.int .i64 bj)).setCell ⟨g, i * 3 + 2, none⟩ (.int .i64 tj)).setCell ⟨g, j * 3, none⟩ (.int .i64 ai)).setCell ⟨g, j * 3 + 1, none⟩ (.int .i64 bi)).setCell ⟨g, j * 3 + 2, none⟩ (.int .i64 ti)).drew := ⟨_, rfl⟩
    rw [← hy] at ky0 ⊢
    clear hy fz ci1 ci2 ci3 cj1 cj2 cj3 c0 HW a1 a2 a3 b1 b2 b3 d1 d2 d3
    go_wp2_with fail
    refine sw_region ⟨by kernel_rfl, by kernel_rfl, by kernel_rfl, by kernel_rfl, by kernel_rfl, by kernel_rfl, by kernel_rfl, by kernel_rfl, by kernel_rfl, by kernel_rfl, by kernel_rfl, by kernel_rfl, by kernel_rfl, by kernel_rfl, by kernel_rfl, by kernel_rfl, by kernel_rfl⟩ h m g n cap i j ai bi aj bj T (fun d _ _ _ _ h => by cases d <;> exact h) (by rfl) (by rfl) (by rfl) (by rfl) hi2 hj2 HT.out.2.2.2.2 (HM.out y ky0).1 HT.out.2.2.1 HT.out.2.2.2.1 HT.out.1 HT.out.2.1 ⟨fun e => HHM.out e.symm, fun e => HG.out e.symm⟩ (HM.out y ky0).2 ?_
    intro a' z hd kz pz
    have HE : Hid (_ ∧ _) := HF.out y z ky0 kz pz
    clear HF HM ky0 kz pz
    refine bodyPost_end (results_none rfl _ _ _) hd ?_
    exact ⟨rfl, HE.out⟩
end Go.Proofs.Ytnpaoppfhffoiaa
