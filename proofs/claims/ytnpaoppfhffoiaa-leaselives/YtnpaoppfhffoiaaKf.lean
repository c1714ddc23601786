/- The document's list of shards that wait: Due. -/
import Derived.Test.YtnpaoppfhffoiaaKe
namespace Go.Proofs.Ytnpaoppfhffoiaa
set_option linter.unusedVariables false
set_option linter.unusedSimpArgs false
open Go.RowKit Go.Deep Go.Maps Go.Shelf Go.Lib Go.Sort

def dueX (l : List Wt) (T : Int) : List Wt := l.filter (fun x => decide (x.t ≤ T))
def leftX (l : List Wt) (T : Int) : List Wt := l.filter (fun x => !decide (x.t ≤ T))

set_option maxRecDepth 100000 in
set_option maxHeartbeats 3200000 in
theorem xdue_ok {w : World} {base t : Nat} {l : List Wt} (h : Xl w base t l) (now : Int) (hd : (l.map key).Nodup) (hl : l.length ≤ 100) :
    Calls Try.prog 16 #[.pointer (some ⟨t, 0, none⟩), .int .i64 now] w fun e w' => ∃ rv, e = .returned rv ∧ Kp (fun b => b = t) w w' ∧ Xl w' base t (leftX l (waits now)) ∧ w'.ownsRow w.heap.size 39 2 rv (srtP ((dueX l (waits now)).map key)).length (pflat (srtP ((dueX l (waits now)).map key))) := by
  have HX : Hid (Xl w base t l) := h
  have HD : Hid ((l.map key).Nodup) := hd
  obtain ⟨v, ht, hr, hne, hbt⟩ := h
  obtain ⟨p1, c1, rfl, q1⟩ := Xr.ofOwn hr
  obtain ⟨n, hn⟩ : ∃ n, n = l.length := ⟨_, rfl⟩
  obtain ⟨T, hT⟩ : ∃ T, T = waits now := ⟨_, rfl⟩
  have HTM : Hid (∀ u, Calls Try.prog 30 #[.int .i64 now] u fun e w' => e = .returned (.int .i64 T) ∧ w' = u) := fun u => by rw [hT]; exact rtime_ok now u
  rw [← hT]
  have Q1 : Hid (∀ j, j < n → ∃ g o, p1 = some ⟨g, o, none⟩ ∧ w.cell? ⟨g, o + j * 3, none⟩ = some (.int .i64 (l.getD j wt0).b) ∧ w.cell? ⟨g, o + j * 3 + 1, none⟩ = some (.int .i64 (l.getD j wt0).i) ∧ w.cell? ⟨g, o + j * 3 + 2, none⟩ = some (.int .i64 (l.getD j wt0).t)) := fun j hj => by
    obtain ⟨g, o, e, _, c1, c2, c3⟩ := q1 j (by omega)
    exact ⟨g, o, e, c1, c2, c3⟩
  have HN : Hid (n = l.length ∧ n ≤ 100) := ⟨hn, by omega⟩
  have hc := ht.cell (j := 0) rfl
  rw [← hn] at hc
  have htl : t < w.heap.size := ht.lt (by simp)
  have HT : Hid (t < w.heap.size ∧ base ≤ t) := ⟨htl, hbt⟩
  clear q1 hn hl hr hne hbt ht htl hd hT
  have hn9 : n ≤ 100 := HN.out.2
  go_enter Try.func16, Try.ntmps16
  go_wp2
  go_loopg [5, 6, 14] n (fun gk ox dx i wr => ∃ (k : Nat) (ov dv : Value), k ≤ n ∧ gk = n - k ∧ ox = ov ∧ dx = dv ∧ i = .int .i64 k ∧ Hid (Kp (fun _ => False) w wr ∧ wr.ownsRow w.heap.size 67 3 dv (leftX (l.take k) T).length (wflat (leftX (l.take k) T)) ∧ wr.ownsRow w.heap.size 39 2 ov (srtP ((dueX (l.take k) T).map key)).length (pflat (srtP ((dueX (l.take k) T).map key))) ∧ (∀ b, ov.ownBlock = some b → dv.ownBlock ≠ some b)))
  case atStart => exact ⟨0, _, _, Nat.zero_le _, rfl, rfl, rfl, rfl, Kp.refl _ _, by simpa [leftX, wflat] using World.ownsRow_nil _ _ _ _, by simpa [dueX, srtP, pflat] using World.ownsRow_nil _ _ _ _, fun b e => by simp [Value.ownBlock] at e⟩
  case round =>
    obtain ⟨k, ov, dv, hk, rfl, hox, hdx, rfl, HS⟩ := hrel
    obtain rfl := hdx.symm
    obtain rfl := hox.symm
    clear hdx hox
    by_cases hlt : (k : Int) < (n : Int)
    · obtain ⟨g1, o1, rfl, a1, b1, d1⟩ := Q1.out k (by omega)
      have hs := HS.out
      have a2 := hs.1.cellv a1 id
      have b2 := hs.1.cellv b1 id
      have d2 := hs.1.cellv d1 id
      have HKK : Hid (k < n) := by show k < n; omega
      have htk : l.take (k + 1) = l.take k ++ [l.getD k wt0] := by
        have hkl : k < l.length := by have := HN.out; omega
        rw [List.take_add_one, List.getElem?_eq_getElem hkl, List.getD_eq_getElem?_getD, List.getElem?_eq_getElem hkl]
        rfl
      have hnd : ((l.take (k + 1)).map key).Nodup := by
        have h1 := HD.out
        rw [← List.take_append_drop (k + 1) l, List.map_append, List.nodup_append] at h1
        exact h1.1
      have hkl9 : (leftX (l.take k) T).length ≤ 100 ∧ (dueX (l.take k) T).length ≤ 100 := by
        have h1 : (leftX (l.take k) T).length ≤ (l.take k).length := List.length_filter_le _ _
        have h2 : (dueX (l.take k) T).length ≤ (l.take k).length := List.length_filter_le _ _
        rw [List.length_take] at h1 h2
        have := HN.out
        omega
      obtain ⟨x, hx⟩ : ∃ x, x = l.getD k wt0 := ⟨_, rfl⟩
      rw [← hx] at a2 b2 d2 htk
      have hps : pairsP (srtP ((dueX (l.take k) T).map key)) (x.b, x.i) = srtP ((dueX (l.take k) T).map key ++ [key x]) := by
        rw [htk, List.map_append, List.nodup_append] at hnd
        have hsub : ((dueX (l.take k) T).map key).Sublist ((l.take k).map key) := List.Sublist.map _ (List.filter_sublist)
        exact pairs_srt (hnd.1.sublist hsub) (fun hm => hnd.2.2 _ (hsub.subset hm) _ (List.mem_singleton.2 rfl) rfl)
      obtain ⟨xa, xb, xt⟩ := x
      dsimp only at a2 b2 d2 hps
      have kx : Kp (fun _ => False) wr (wr.alloc (.cells #[.int .i64 xa, .int .i64 xb, .int .i64 xt] 67)) := (Kp.refl _ _).alloc _
      have hxl : Lv (wr.alloc (.cells #[.int .i64 xa, .int .i64 xb, .int .i64 xt] 67)) wr.heap.size [.int .i64 xa, .int .i64 xb, .int .i64 xt] := Lv.new wr _ _
      have HP0 : Hid (∀ u, Kp (fun _ => False) (wr.alloc (.cells #[.int .i64 xa, .int .i64 xb, .int .i64 xt] 67)) u → Calls Try.prog 37 #[ov, pv2 xa xb] u fun e w' => ∃ rv, e = .returned rv ∧ Kp (fun _ => False) u w' ∧ w'.ownsRow u.heap.size 39 2 rv (srtP ((dueX (l.take k) T).map key ++ [key ⟨xa, xb, xt⟩])).length (pflat (srtP ((dueX (l.take k) T).map key ++ [key ⟨xa, xb, xt⟩])))) := fun u ku => by
        have h1 := pairs_ok (((Pr.ofOwn hs.2.2.1).keep kx (fun _ _ _ e => e)).keep ku (fun _ _ _ e => e)) xa xb (by rw [srtP_len, List.length_map]; omega)
        rw [hps] at h1
        exact h1
      have px0 := hxl.cell (j := 0) rfl
      have px1 := hxl.cell (j := 1) rfl
      have px2 := hxl.cell (j := 2) rfl
      have HXO0 : Hid (Kp (fun _ => False) w (wr.alloc (.cells #[.int .i64 xa, .int .i64 xb, .int .i64 xt] 67)) ∧ (wr.alloc (.cells #[.int .i64 xa, .int .i64 xb, .int .i64 xt] 67)).ownsRow w.heap.size 67 3 dv (leftX (l.take k) T).length (wflat (leftX (l.take k) T)) ∧ (wr.alloc (.cells #[.int .i64 xa, .int .i64 xb, .int .i64 xt] 67)).ownsRow w.heap.size 39 2 ov (srtP ((dueX (l.take k) T).map key)).length (pflat (srtP ((dueX (l.take k) T).map key))) ∧ (leftX (l.take k) T).length ≤ 100) := ⟨hs.1.alloc _, ownsRow_keep hs.2.1 kx (fun _ _ e => e), ownsRow_keep hs.2.2.1 kx (fun _ _ e => e), hkl9.1⟩
      have HTK : Hid (l.take (k + 1) = l.take k ++ [⟨xa, xb, xt⟩]) := htk
      have HAP : Hid (∀ b, ov.ownBlock = some b → dv.ownBlock ≠ some b) := hs.2.2.2
      clear hs a1 b1 d1 htk kx hxl hx hkl9 hnd hps
      by_cases he : xt ≤ T
      · have HE : Hid (leftX (l.take (k + 1)) T = leftX (l.take k) T ∧ (dueX (l.take (k + 1)) T).map key = (dueX (l.take k) T).map key ++ [key ⟨xa, xb, xt⟩]) := by
          show _ ∧ _
          rw [HTK.out]
          constructor
          · unfold leftX; simp [he]
          · unfold dueX; simp [he]
        go_wp2
        go_quiet (first | (go_at_call 30; refine Calls.quiet_of_same (HTM.out _)))
        obtain ⟨wq, hwq⟩ : ∃ x, x = (wr.alloc (.cells #[.int .i64 xa, .int .i64 xb, .int .i64 xt] 67)).drewN nq := ⟨_, rfl⟩
        have kq : Kp (fun _ => False) (wr.alloc (.cells #[.int .i64 xa, .int .i64 xb, .int .i64 xt] 67)) wq := by rw [hwq]; exact (Kp.refl _ _).drewN _
        rw [← hwq]
        have qx0 := kq.cellv px0 id
        have qx1 := kq.cellv px1 id
        have qx2 := kq.cellv px2 id
        have HP := HP0.out wq kq
        have HP : Hid (Calls _ _ _ wq _) := HP
        have HXO : Hid (Kp (fun _ => False) w wq ∧ wq.ownsRow w.heap.size 67 3 dv (leftX (l.take k) T).length (wflat (leftX (l.take k) T)) ∧ wq.ownsRow w.heap.size 39 2 ov (srtP ((dueX (l.take k) T).map key)).length (pflat (srtP ((dueX (l.take k) T).map key))) ∧ (leftX (l.take k) T).length ≤ 100) := ⟨HXO0.out.1.trans kq (fun _ _ e => e), ownsRow_keep HXO0.out.2.1 kq (fun _ _ e => e), ownsRow_keep HXO0.out.2.2.1 kq (fun _ _ e => e), HXO0.out.2.2.2⟩
        clear hwq kq HP0 HXO0 px0 px1 px2
        go_wp2_with (go_at_call 37; refine HP.out.mono ?_; rintro e w5 ⟨v5, rfl, k5, o5⟩)
        have HF : Hid (Kp (fun _ => False) w w5 ∧ w5.ownsRow w.heap.size 67 3 dv (leftX (l.take (k + 1)) T).length (wflat (leftX (l.take (k + 1)) T)) ∧ w5.ownsRow w.heap.size 39 2 v5 (srtP ((dueX (l.take (k + 1)) T).map key)).length (pflat (srtP ((dueX (l.take (k + 1)) T).map key))) ∧ (∀ b, v5.ownBlock = some b → dv.ownBlock ≠ some b)) := by
          show _ ∧ _
          rw [HE.out.1, HE.out.2]
          refine ⟨HXO.out.1.trans k5 (fun _ _ e => e), ownsRow_keep HXO.out.2.1 k5 (fun _ _ e => e), ownsRow_base o5 HXO.out.1.size, fun b e e2 => ?_⟩
          have h1 := (ownBlock_lt o5 e).1
          have h2 := (ownBlock_lt HXO.out.2.1 e2).2
          omega
        clear HP
        go_roundg (n - (k + 1))
        case rel => exact ⟨k + 1, v5, dv, by have := HKK.out; omega, rfl, rfl, rfl, by go_num, HF⟩
        case measure => have := HKK.out; omega
      · have HE : Hid (leftX (l.take (k + 1)) T = leftX (l.take k) T ++ [⟨xa, xb, xt⟩] ∧ (dueX (l.take (k + 1)) T).map key = (dueX (l.take k) T).map key) := by
          show _ ∧ _
          rw [HTK.out]
          constructor
          · unfold leftX; simp; omega
          · unfold dueX; simp; omega
        go_wp2
        go_quiet (first | (go_at_call 30; refine Calls.quiet_of_same (HTM.out _)))
        obtain ⟨wq, hwq⟩ : ∃ x, x = (wr.alloc (.cells #[.int .i64 xa, .int .i64 xb, .int .i64 xt] 67)).drewN nq := ⟨_, rfl⟩
        have kq : Kp (fun _ => False) (wr.alloc (.cells #[.int .i64 xa, .int .i64 xb, .int .i64 xt] 67)) wq := by rw [hwq]; exact (Kp.refl _ _).drewN _
        rw [← hwq]
        have qx0 := kq.cellv px0 id
        have qx1 := kq.cellv px1 id
        have qx2 := kq.cellv px2 id
        have HP := HP0.out wq kq
        have HP : Hid (Calls _ _ _ wq _) := HP
        have HXO : Hid (Kp (fun _ => False) w wq ∧ wq.ownsRow w.heap.size 67 3 dv (leftX (l.take k) T).length (wflat (leftX (l.take k) T)) ∧ wq.ownsRow w.heap.size 39 2 ov (srtP ((dueX (l.take k) T).map key)).length (pflat (srtP ((dueX (l.take k) T).map key))) ∧ (leftX (l.take k) T).length ≤ 100) := ⟨HXO0.out.1.trans kq (fun _ _ e => e), ownsRow_keep HXO0.out.2.1 kq (fun _ _ e => e), ownsRow_keep HXO0.out.2.2.1 kq (fun _ _ e => e), HXO0.out.2.2.2⟩
        clear hwq kq HP0 HXO0 px0 px1 px2
        go_wp2_with (at_builtin; go_must (refine wpList_append_wt (xa := xa) (xb := xb) (xt := xt) rfl _ _ rfl w.heap.size dv (leftX (l.take k) T) rfl _ rfl (by simp) HXO.out.2.1 (by have := HXO.out; omega) HXO.out.1.size ?_); intro v5 w5 o5 k5 b5)
        have HF : Hid (Kp (fun _ => False) w w5 ∧ w5.ownsRow w.heap.size 67 3 v5 (leftX (l.take (k + 1)) T).length (wflat (leftX (l.take (k + 1)) T)) ∧ w5.ownsRow w.heap.size 39 2 ov (srtP ((dueX (l.take (k + 1)) T).map key)).length (pflat (srtP ((dueX (l.take (k + 1)) T).map key))) ∧ (∀ b, ov.ownBlock = some b → v5.ownBlock ≠ some b)) := by
          show _ ∧ _
          rw [HE.out.1, HE.out.2]
          refine ⟨HXO.out.1.trans k5 (fun b hb e => by have := (ownBlock_lt HXO.out.2.1 e).1; omega), o5, ownsRow_keep HXO.out.2.2.1 k5 (fun b hb e => HAP.out b hb e), fun b e e2 => ?_⟩
          rcases b5 with b5 | ⟨g, b5, b6⟩
          · exact HAP.out b e (b5 ▸ e2)
          · have h2 := (ownBlock_lt HXO.out.2.2.1 e).2
            rw [b5] at e2
            injection e2 with e2
            omega
        clear HP
        go_roundg (n - (k + 1))
        case rel => exact ⟨k + 1, ov, v5, by have := HKK.out; omega, rfl, rfl, rfl, by go_num, HF⟩
        case measure => have := HKK.out; omega
    · have hkn : k = n := by omega
      have hs := HS.out
      rw [List.take_of_length_le (by have := HN.out; omega)] at hs
      obtain ⟨dp, dc, hdv, _⟩ := Xr.ofOwn hs.2.1
      obtain ⟨dn, hdn⟩ : ∃ dn, dn = (leftX l T).length := ⟨_, rfl⟩
      rw [← hdn] at hdv
      subst hdv
      clear hdn
      have hcr := hs.1.cellv hc id
      have hx := HX.out
      obtain ⟨v0, hv0, _, _, _⟩ := hx
      have hl0 := hv0.keep hs.1 id
      have hfz := hl0.fz (j := 0) (by simp)
      have HL0 : Hid (Lv wr t [v0]) := hl0
      have HSS : Hid (Kp (fun _ => False) w wr ∧ wr.ownsRow w.heap.size 67 3 (.slice dp dn dc) (leftX l T).length (wflat (leftX l T)) ∧ wr.ownsRow w.heap.size 39 2 ov (srtP ((dueX l T).map key)).length (pflat (srtP ((dueX l T).map key)))) := ⟨hs.1, hs.2.1, hs.2.2.1⟩
      clear hs hv0 hl0
      go_wp2
      go_ret
      have hs := HSS.out
      have hset : Kp (fun b => b = t) wr (wr.setCell ⟨t, 0, none⟩ (.slice dp dn dc)) := kp_setCells t [.slice dp dn dc] 0 wr
      refine ⟨ov, rfl, (hs.1.mono (fun _ _ e => e.elim)).trans hset (fun b _ e => e), ⟨.slice dp dn dc, ?_, ?_, ?_, HT.out.2⟩, ?_⟩
      · simpa using HL0.out.set1 0 (.slice dp dn dc) (by simp)
      · exact ownsRow_base (ownsRow_keep hs.2.1 hset (fun b hb e => by have := (ownBlock_lt hs.2.1 hb).1; have := HT.out; omega)) (by have := HT.out; omega)
      · intro e
        have := (ownBlock_lt hs.2.1 e).1
        have := HT.out
        omega
      · exact ownsRow_keep hs.2.2 hset (fun b hb e => by have := (ownBlock_lt hs.2.2 hb).1; have := HT.out; omega)
end Go.Proofs.Ytnpaoppfhffoiaa
