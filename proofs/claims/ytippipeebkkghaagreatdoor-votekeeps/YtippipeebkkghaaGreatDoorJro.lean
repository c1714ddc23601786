/- A stock's bytes: written. -/
import Derived.Test.YtippipeebkkghaaGreatDoorJrn
namespace Go.Proofs.YtippipeebkkghaaGreatDoor
set_option linter.unusedVariables false
set_option linter.unusedSimpArgs false
open Go.RowKit Go.Deep Go.Maps

set_option maxRecDepth 100000 in
set_option maxHeartbeats 6400000 in
theorem swritten_ok {w : World} {Z : Nat → Prop} {sh mp g : Nat} {h : List Rc} (x : Sk w Z sh mp g h) :
    Calls Tryz.prog 85 #[.pointer (some ⟨sh, 1, none⟩)] w fun e w' => ∃ v ss, e = .returned v ∧ Kp (fun _ => False) w w' ∧ Rw w' w.heap.size v ((ckL h ss).map wrS) ∧ Ths h ss ∧ ss.length ≤ 1000 := by
  have HA : Hid (Calls _ _ _ w _) := sall_ok x
  have HX : Hid (Sk w Z sh mp g h) := x
  clear x
  go_enter Tryz.func85, Tryz.ntmps85
  go_wp2_with fail
  refine HA.out.mono ?_
  rintro e9 w2 ⟨v2, ss, G, rfl, k2, r2, hT, hG⟩
  have HLn : Hid ((srt3 ss).length ≤ 1000 ∧ ss.length ≤ 1000) := by
    have := hT.len HX.out
    exact ⟨by rw [srt3_len]; exact this, this⟩
  obtain ⟨L, hL⟩ : ∃ L, L = srt3 ss := ⟨_, rfl⟩
  rw [← hL] at r2 HLn
  obtain ⟨pp, cc, rfl, hc⟩ := r2
  have HR : Hid (∀ j, j < L.length → ∃ g o, pp = some ⟨g, o, none⟩ ∧ w.heap.size ≤ g ∧ ∀ r u, (cE G (L.getD j default))[r]? = some u → w2.cell? ⟨g, o + j * 5 + r, none⟩ = some u) := hc
  have HGo : Hid (∀ j, j < L.length → ∃ o, (stS h).1 (L.getD j default) = some o ∧ (L.getD j default).k = (o.k : Int) ∧ (L.getD j default).n = (o.n : Int) ∧ (L.getD j default).i = (o.i : Int) ∧ (G (L.getD j default)).e = (o.e : Int) ∧ (G (L.getD j default)).n = o.b.length ∧ Rb w2 (G (L.getD j default)).p o.b.length o.b ∧ GoodR o) := fun j hj => by
    have hm : L.getD j default ∈ ss := by
      rw [← srt3_mem, ← hL, List.getD_eq_getElem?_getD, List.getElem?_eq_getElem hj]
      exact List.getElem_mem hj
    obtain ⟨hw, o, ho⟩ := (hT.2 _).1 hm
    obtain ⟨a1, a2, a3, a4, a5, a6, a7, a8⟩ := hG _ o hw ho
    exact ⟨o, ho, a1, a2, a3, a4, a5, a6.keep0 k2, a8⟩
  have HF : Hid (Ths h ss ∧ L = srt3 ss ∧ Kp (fun _ => False) w w2 ∧ ss.length ≤ 1000) := ⟨hT, hL, k2, HLn.out.2⟩
  obtain ⟨n, hn⟩ : ∃ n, n = L.length := ⟨_, rfl⟩
  have HN : Hid (n = L.length ∧ n ≤ 1000) := ⟨hn, by rw [hn]; exact HLn.out.1⟩
  rw [← hn] at HR HGo
  rw [← hn]
  clear hc hG hT hL k2 HLn HA HX hn
  go_wp2_with fail
  go_loopg [3, 9] n (fun gk v iv wr => ∃ (j : Nat) (v1 : Value), j ≤ n ∧ gk = n - j ∧ v = v1 ∧ iv = .int .i64 (j : Int) ∧ Hid (Kp (fun _ => False) w2 wr ∧ Rw wr w2.heap.size v1 (((L.take j).filterMap (stS h).1).map wrS)))
  case atStart => exact ⟨0, _, Nat.zero_le _, rfl, rfl, rfl, Kp.refl _ _, Rw.nil _ _⟩
  case round =>
    obtain ⟨j, v1, hj, rfl, hvv, rfl, HK⟩ := hrel
    have hv2 := hvv.symm
    subst hv2
    clear hvv
    by_cases hlt : j < n
    · have hlt2 : (j : Int) < (n : Int) := by omega
      obtain ⟨g0, o0, hpp, hz0, hcs⟩ := HR.out j hlt
      obtain ⟨o, ho, a1, a2, a3, a4, a5, a6, a7⟩ := HGo.out j hlt
      have hjL : j < L.length := by rw [← HN.out.1]; exact hlt
      have HSn : Hid (((L.take (j + 1)).filterMap (stS h).1).map wrS = ((L.take j).filterMap (stS h).1).map wrS ++ [wrS o]) := by
        show _ = _
        rw [take_snoc3 L j hjL, List.filterMap_append, List.map_append]
        congr 1
        rw [List.filterMap_cons_some ho]
        rfl
      obtain ⟨y, hy⟩ : ∃ y, y = L.getD j default := ⟨_, rfl⟩
      rw [← hy] at ho a1 a2 a3 a4 a5 a6 hcs
      obtain ⟨⟨ge, gp, gn, gc⟩, hgy⟩ : ∃ z, z = G y := ⟨_, rfl⟩
      have hk : Kp (fun _ => False) w2 wr := HK.out.1
      have q0 := hk.cellv (hcs 0 _ rfl) id
      have q1 := hk.cellv (hcs 1 _ rfl) id
      have q2 := hk.cellv (hcs 2 _ rfl) id
      have q3 := hk.cellv (hcs 3 _ rfl) id
      have q4 := hk.cellv (hcs 4 _ rfl) id
      rw [← hgy] at q3 q4 a4 a5 a6
      dsimp only at q3 q4 a4 a5 a6
      rw [a1] at q0
      rw [a2] at q1
      rw [a3] at q2
      rw [a4] at q3
      rw [a5] at q4
      rw [Nat.add_zero] at q0
      subst hpp
      have hw1 : wrap64 ((j : Int) + 1) = ((j + 1 : Nat) : Int) := by have := HN.out.2; unfold wrap64; omega
      obtain ⟨wb, hwb⟩ : ∃ z, z = wr.alloc (.cells #[.int .i64 (o.k : Int), .int .i64 (o.n : Int), .int .i64 (o.i : Int), .int .i64 (o.e : Int), .slice gp o.b.length gc] 122) := ⟨_, rfl⟩
      have kb : Kp (fun _ => False) wr wb := by rw [hwb]; exact (Kp.refl _ _).alloc _
      have HWr : Hid (Calls Tryz.prog 87 #[.agg #[.int .i64 (o.k : Int), .int .i64 (o.n : Int), .int .i64 (o.i : Int), .int .i64 (o.e : Int), .slice gp o.b.length gc]] wb _) := written_ok o gp gc wb ((a6.keep0 hk).keep0 kb) a7
      have HKb : Hid (Kp (fun _ => False) wr wb) := kb
      have HJ : Hid (j < n) := hlt
      have HWb : Hid (∀ y ∈ wrS o, y < 256) := wrS_b a7
      clear hcs ho a1 a2 a3 a4 a5 a6 a7 hgy hk hy hlt hz0 hjL kb
      go_wp2_with fail
      rw [← hwb]
      clear hwb q0 q1 q2 q3 q4
      refine HWr.out.mono ?_
      rintro e9 wc ⟨u, rfl, kc, oc⟩
      obtain ⟨wd, hwd⟩ : ∃ z, z = wc.alloc (.cells #[u] 75) := ⟨_, rfl⟩
      have kd : Kp (fun _ => False) wc wd := by rw [hwd]; exact (Kp.refl _ _).alloc _
      have krd : Kp (fun _ => False) wr wd := (HKb.out.trans kc (fun _ _ e => e)).trans kd (fun _ _ e => e)
      obtain ⟨pu, cu, rfl⟩ := own_form oc
      have HCd : Hid (wd.cell? ⟨wc.heap.size, 0, none⟩ = some (.slice pu (wrS o).length cu)) := by rw [hwd]; exact (show Lv _ _ [.slice pu (wrS o).length cu] from Lv.new wc _ _).cell (j := 0) rfl
      obtain ⟨vs, r1, r3, r4⟩ := HK.out.2.keep0 krd
      obtain ⟨ln, hln⟩ : ∃ ln, ln = (((L.take j).filterMap (stS h).1).map wrS).length := ⟨_, rfl⟩
      have hlnb : ln ≤ 1000 := by
        rw [hln, List.length_map]
        have h2 : ((L.take j).filterMap (stS h).1).length ≤ (L.take j).length := List.length_filterMap_le _ _
        rw [List.length_take] at h2
        have := HN.out
        omega
      have HO1 : Hid (wd.ownsRow w2.heap.size 75 1 v1 ln vs ∧ ln ≤ 1000 ∧ w2.heap.size ≤ wd.heap.size) := ⟨by rw [hln]; exact r1, hlnb, Nat.le_trans HK.out.1.size krd.size⟩
      have HAp : Hid (∀ v' w', w'.ownsRow w2.heap.size 75 1 v' (ln + 1) (vs ++ [.slice pu (wrS o).length cu]) → Kp (fun b => v1.ownBlock = some b) wd w' → (v'.ownBlock = v1.ownBlock ∨ v'.ownBlock = some wd.heap.size) → Kp (fun _ => False) w2 w' ∧ Rw w' w2.heap.size v' (((L.take (j + 1)).filterMap (stS h).1).map wrS)) := fun v' w' o7 k7 hv7 => by
        have hzw : w2.heap.size ≤ wb.heap.size := Nat.le_trans HK.out.1.size HKb.out.size
        refine ⟨(HK.out.1.trans krd (fun _ _ e => e)).trans k7 (fun b hb e => by have := (ownBlock_lt HO1.out.1 e).1; omega), ?_⟩
        rw [HSn.out]
        refine Rw.app (v := v1) r3 r4 (ownsRow_base (ownsRow_keep oc kd (fun _ _ e => e)) hzw) (fun b e e2 => ?_) (by rw [hln] at o7; exact o7) k7 hv7
        have h1 := (ownBlock_lt oc e2).1
        have h2 := (ownBlock_lt HK.out.2.choose_spec.1 e).2
        have h3 := HKb.out.size
        omega
      obtain ⟨M, hM⟩ : ∃ M, M = (wrS o).length := ⟨_, rfl⟩
      rw [← hM] at HCd HAp
      rw [← hM] at hwd
      rw [← hM]
      clear kc oc kd krd r1 r3 r4 hln hlnb hM HWr HWb HSn
      go_wp2_with (refine wpList_append_text (wc.alloc (.cells #[.slice pu M cu] 75)) rfl _ _ rfl w2.heap.size v1 ln vs (.slice pu M cu) wc.heap.size rfl (by rw [← hwd]; exact HO1.out.1) rfl rfl (by rw [← hwd]; exact HCd.out) (by have := HO1.out.2.1; omega) (by rw [← hwd]; exact HO1.out.2.2) ?_; intro v7 w7 o7 k7 hv7; rw [← hwd] at k7 hv7)
      have HF9 : Hid (Kp (fun _ => False) w2 w7 ∧ Rw w7 w2.heap.size v7 (((L.take (j + 1)).filterMap (stS h).1).map wrS)) := HAp.out v7 w7 o7 k7 hv7
      clear o7 k7 hv7 HAp HO1 HCd hwd HK HKb
      go_roundg (n - (j + 1))
      case rel => exact ⟨j + 1, v7, HJ.out, rfl, rfl, by first | rw [hw1] | (simp; done), HF9.out⟩
      case measure => exact Nat.sub_lt_sub_left HJ.out (Nat.lt_succ_self j)
    · have hjn : j = n := by omega
      subst hjn
      have hlt2 : ¬ ((j : Int) < (j : Int)) := by omega
      have HE : Hid (Ths h ss ∧ Kp (fun _ => False) w wr ∧ Rw wr w.heap.size v1 ((ckL h ss).map wrS) ∧ ss.length ≤ 1000) := by
        refine ⟨HF.out.1, HF.out.2.2.1.trans HK.out.1 (fun _ _ e => e), ?_, HF.out.2.2.2⟩
        have h9 := HK.out.2.base HF.out.2.2.1.size
        rw [List.take_of_length_le (Nat.le_of_eq HN.out.1.symm), HF.out.2.1] at h9
        exact h9
      clear HK HR HGo HF
      go_wp2
      go_ret
      exact ⟨v1, rfl, HE.out.2.1, ss, HE.out.2.2.1, HE.out.1, HE.out.2.2.2⟩
end Go.Proofs.YtippipeebkkghaaGreatDoor
