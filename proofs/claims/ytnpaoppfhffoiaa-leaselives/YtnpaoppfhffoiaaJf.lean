/- The last of those that wait is taken away. -/
import Derived.Test.YtnpaoppfhffoiaaJe
namespace Go.Proofs.Ytnpaoppfhffoiaa
set_option linter.unusedVariables false
open Go.RowKit Go.Deep Go.Maps

theorem getD_take {l : List Wt} {n k : Nat} (h : k < n) : (l.take n).getD k wt0 = l.getD k wt0 := by
  rw [List.getD_eq_getElem?_getD, List.getElem?_take_of_lt h, ← List.getD_eq_getElem?_getD]
set_option maxRecDepth 100000 in
set_option maxHeartbeats 1600000 in
theorem wpop_ok {w : World} {h m : Nat} {v : Value} {l : List Wt} (x : Hw w h m v l) (n : Nat) (hl : l.length = n + 1) (hn : n ≤ 1000) :
    Calls Try.prog 91 #[.pointer (some ⟨h, 0, none⟩)] w fun r w' => r = .returned (.iface 65 (.agg #[.int .i64 (l.getD n wt0).b, .int .i64 (l.getD n wt0).i, .int .i64 (l.getD n wt0).t])) ∧ Kp (Hs h m v) w w' ∧ ∃ v', Hw w' h m v' (l.take n) ∧ v'.ownBlock = v.ownBlock := by
  obtain ⟨g, cap, rfl⟩ := x.form1 (by omega)
  have cc := x.cn (j := n) (by omega)
  have hwf := x.wf n (by omega)
  have HX : Hid (Hw w h m (.slice (some ⟨g, 0, none⟩) l.length cap) l) := x
  obtain ⟨e, he⟩ : ∃ e, e = l.getD n wt0 := ⟨_, rfl⟩
  have HE : Hid (e = l.getD n wt0) := he
  rw [← he] at cc hwf ⊢
  obtain ⟨eb, ei, et⟩ := e
  obtain ⟨q1, q2, q3⟩ := cc
  dsimp only at q1 q2 q3 hwf ⊢
  have c0 := x.c0
  have c1 := x.c1
  rw [hl] at c0
  have f0 : w.frozen? ⟨h, 0, none⟩ = false := x.lv.fz (by simp)
  have hcap : n + 1 ≤ cap := by
    obtain ⟨_, h2⟩ := x.o
    rcases h2 with ⟨h0, _⟩ | ⟨g', cap', cur, hv, hg, hh, hnn, hcap, hsz, htake⟩
    · cases h0
    · cases hv; omega
  have hw1 : wrap64 (((n + 1 : Nat) : Int) - 1) = (n : Int) := by unfold wrap64; omega
  have hw2 : wrap64 ((n : Int)) = (n : Int) := by unfold wrap64; omega
  have hgh := x.ne g rfl
  have hhw := x.hlt
  have hmw := x.mlt
  have hgw := (ownBlock_lt x.o (g := g) rfl).2
  have HL : Hid (l.length = n + 1) := hl
  have HB : Hid (h < w.heap.size ∧ m < w.heap.size ∧ g < w.heap.size ∧ g ≠ h ∧ g ≠ m ∧ h ≠ m ∧ n ≤ 1000) := ⟨hhw, hmw, hgw, hgh.1, hgh.2, x.hm, hn⟩
  have HWF : Hid (wf2 eb ei) := hwf
  clear x he hl hgh hmw hgw hn hwf
  go_enter Try.func91, Try.ntmps91
  go_wp2
  have ks : Kp (fun b => b = h) w (w.setCell ⟨h, 0, none⟩ (.slice (some ⟨g, 0, none⟩) n cap)) := (Kp.refl (fun b => b = h) w).setCell (fun _ => rfl) _
  have ka : Kp (fun _ => False) (w.setCell ⟨h, 0, none⟩ (.slice (some ⟨g, 0, none⟩) n cap)) ((w.setCell ⟨h, 0, none⟩ (.slice (some ⟨g, 0, none⟩) n cap)).alloc (.cells #[.int .i64 eb, .int .i64 ei, .int .i64 et] 65)) := (Kp.refl _ _).alloc _
  have hr1 : Lv ((w.setCell ⟨h, 0, none⟩ (.slice (some ⟨g, 0, none⟩) n cap)).alloc (.cells #[.int .i64 eb, .int .i64 ei, .int .i64 et] 65)) w.heap.size [.int .i64 eb, .int .i64 ei, .int .i64 et] := by
    have := Lv.new (w.setCell ⟨h, 0, none⟩ (.slice (some ⟨g, 0, none⟩) n cap)) #[.int .i64 eb, .int .i64 ei, .int .i64 et] 65
    rwa [nblk_setCell] at this
  have hl1 : Lv (w.setCell ⟨h, 0, none⟩ (.slice (some ⟨g, 0, none⟩) n cap)) h [.slice (some ⟨g, 0, none⟩) n cap, .map (some m)] := HX.out.lv.set1 0 (.slice (some ⟨g, 0, none⟩) n cap) (by simp)
  have hl2 := hl1.keep ka (fun e => e)
  have k1 : Kp (fun b => b = h) w ((w.setCell ⟨h, 0, none⟩ (.slice (some ⟨g, 0, none⟩) n cap)).alloc (.cells #[.int .i64 eb, .int .i64 ei, .int .i64 et] 65)) := ks.trans ka (fun _ _ e => e.elim)
  obtain ⟨w1, hw1⟩ : ∃ x, x = (w.setCell ⟨h, 0, none⟩ (.slice (some ⟨g, 0, none⟩) n cap)).alloc (.cells #[.int .i64 eb, .int .i64 ei, .int .i64 et] 65) := ⟨_, rfl⟩
  obtain ⟨r, hr⟩ : ∃ q, q = w.heap.size := ⟨_, rfl⟩
  rw [← hw1] at k1 hr1 hl2 ⊢
  rw [← hr] at hr1 ⊢
  have HHR : Hid (r = w.heap.size) := hr
  clear hr ka ks hw1 hl1 q1 q2 q3 c0 c1 f0 hcap hhw
  have kd : Kp (fun b => b = h) w { w1 with drawn := w1.drawn + 1 } := k1.drew
  have hrd : Lv { w1 with drawn := w1.drawn + 1 } r [.int .i64 eb, .int .i64 ei, .int .i64 et] := hr1.keep ((Kp.refl (fun _ => False) w1).drew) (fun e => e)
  have hld : Lv { w1 with drawn := w1.drawn + 1 } h [.slice (some ⟨g, 0, none⟩) n cap, .map (some m)] := hl2.keep ((Kp.refl (fun _ => False) w1).drew) (fun e => e)
  refine wp_region_still_tail 6 (by kernel_rfl) (by kernel_rfl) ?_
  obtain ⟨w2, hw2⟩ : ∃ x, x = { w1 with drawn := w1.drawn + 1 } := ⟨_, rfl⟩
  rw [← hw2] at kd hrd hld ⊢
  clear hw2 k1 hr1 hl2
  have HRD : Hid (Lv w2 r [.int .i64 eb, .int .i64 ei, .int .i64 et]) := hrd
  have HLD : Hid (Lv w2 h [.slice (some ⟨g, 0, none⟩) n cap, .map (some m)]) := hld
  have KD : Hid (Kp (fun b => b = h) w w2) := kd
  have c1 := hld.cell (j := 1) rfl
  have r0 := hrd.cell (j := 0) rfl
  have r1 := hrd.cell (j := 1) rfl
  obtain ⟨T, hT1, hT2⟩ := HX.out.mp
  have HT : Hid (Px w2 m (n + 1) T ∧ Pos l T) := ⟨by rw [← HL.out]; exact hT1.keep kd (fun e => HB.out.2.2.2.2.2.1 e.symm), hT2⟩
  clear hrd kd hld hT1 hT2
  simp only [List.take_succ_cons, List.take_zero, List.drop_succ_cons, List.drop_zero]
  iterate 6 still_step
  refine wpStill_nil ?_
  clear c1 r0 r1
  refine wpList_del_px rfl _ _ rfl Try.underlying58 m (n + 1) T HT.out.1 rfl HWF.out rfl ?_
  intro w3 hp3 k3
  have hTe : T eb ei = some (.int .i64 (n : Int)) := by
    have := HT.out.2.1 n (by rw [HL.out]; omega)
    rw [← HE.out] at this
    exact this
  rw [hTe] at hp3
  have hp3' : Px w3 m n (del2 T eb ei) := hp3
  have hb := HB.out
  have hL3 : Lv w3 h [.slice (some ⟨g, 0, none⟩) n cap, .map (some m)] := HLD.out.keep k3 hb.2.2.2.2.2.1
  have hR3 : Lv w3 r [.int .i64 eb, .int .i64 ei, .int .i64 et] := HRD.out.keep k3 (fun e => by have := HHR.out; omega)
  have hO3 : w3.ownsRow 0 65 3 (.slice (some ⟨g, 0, none⟩) n cap) n (wflat (l.take n)) := by
    have h1 := HX.out.o
    rw [HL.out] at h1
    have h2 := own_sub0 (k := n) h1 (by omega)
    rw [wflat_take] at h2
    refine ownsRow_keep (ownsRow_keep h2 KD.out (fun g' e e2 => ?_)) k3 (fun g' e e2 => ?_)
    · have e' : some g = some g' := e
      injection e' with e'
      omega
    · have e' : some g = some g' := e
      injection e' with e'
      omega
  have hlt : (l.take n).length = n := by rw [List.length_take, HL.out]; omega
  have hP : Pos (l.take n) (del2 T eb ei) := by
    refine ⟨fun k hk => ?_, fun a b hab => ?_⟩
    · rw [hlt] at hk
      rw [getD_take hk]
      unfold del2
      rw [if_neg (fun e => by
        have := HX.out.nd k n (by rw [HL.out]; omega) (by rw [HL.out]; omega) (by rw [← HE.out]; exact e.1) (by rw [← HE.out]; exact e.2)
        omega)]
      exact HT.out.2.1 k (by rw [HL.out]; omega)
    · unfold del2
      by_cases e : a = eb ∧ b = ei
      · rw [if_pos e]
      · rw [if_neg e]
        refine HT.out.2.2 a b (fun k hk e2 => ?_)
        rw [HL.out] at hk
        by_cases ek : k < n
        · exact hab k (by rw [hlt]; exact ek) (by rw [getD_take ek]; exact e2)
        · obtain rfl : k = n := by omega
          rw [← HE.out] at e2
          exact e ⟨e2.1.symm, e2.2.symm⟩
  have hF : Hw w3 h m (.slice (some ⟨g, 0, none⟩) n cap) (l.take n) := by
    refine ⟨hL3, by rw [hlt]; exact hO3, ⟨_, by rw [hlt]; exact hp3', hP⟩, fun j k hj hk => ?_, fun k hk => ?_, hb.2.2.2.2.2.1, fun g' e => ?_⟩
    · rw [hlt] at hj hk
      rw [getD_take hj, getD_take hk]
      exact HX.out.nd j k (by rw [HL.out]; omega) (by rw [HL.out]; omega)
    · rw [hlt] at hk
      rw [getD_take hk]
      exact HX.out.wf k (by rw [HL.out]; omega)
    · have e' : some g = some g' := e
      injection e' with e'
      omega
  have hKK : Kp (Hs h m (.slice (some ⟨g, 0, none⟩) l.length cap)) w w3 := (KD.out.mono (fun b _ e => (Or.inl e : Hs h m _ b))).trans k3 (fun b _ e => Or.inr (Or.inl e))
  have HF : Hid (Hw w3 h m (.slice (some ⟨g, 0, none⟩) n cap) (l.take n) ∧ Kp (Hs h m (.slice (some ⟨g, 0, none⟩) l.length cap)) w w3) := ⟨hF, hKK⟩
  have r0 := hR3.cell (j := 0) rfl
  have r1 := hR3.cell (j := 1) rfl
  have r2 := hR3.cell (j := 2) rfl
  clear hF hKK hP hlt hO3 hL3 hR3 hp3 hp3' hTe hb k3 HT
  go_wp2
  go_ret
  exact ⟨rfl, HF.out.2, _, HF.out.1, rfl⟩
end Go.Proofs.Ytnpaoppfhffoiaa
