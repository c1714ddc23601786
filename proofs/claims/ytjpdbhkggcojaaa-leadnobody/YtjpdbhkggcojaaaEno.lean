/- Tries that no call made; the walk of the law LeadNobody. -/
import Derived.Test.YtjpdbhkggcojaaaLcw
namespace Go.Proofs.Ytjpdbhkggcojaaa
set_option linter.unusedVariables false
open Go.RowKit Go.Deep Go.Maps

/-- nobody made the try that v points to -/
def Nt (w : World) (v : Value) : Prop := v = .pointer none ∨ ∃ b, v = .pointer (some ⟨b, 0, none⟩) ∧ w.cell? ⟨b, 0, none⟩ = some (.int .i64 0)
theorem Nt.keep {w w' : World} {v : Value} (h : Nt w v) (k : Kp (fun _ => False) w w') : Nt w' v := by
  rcases h with h | ⟨b, h, hc⟩
  · exact Or.inl h
  · exact Or.inr ⟨b, h, k.cellv hc id⟩

set_option maxRecDepth 100000 in
theorem nmade (v : Value) (w : World) (h : Nt w v) : Calls Try.prog 33 #[v] w fun e w' => e = .returned (.bool false) ∧ w' = w := by
  rcases h with rfl | ⟨b, rfl, hc⟩
  · go_enter Try.func33, Try.ntmps33
    go_wp2
    go_ret
    exact ⟨rfl, rfl⟩
  · go_enter Try.func33, Try.ntmps33
    go_wp2
    go_ret
    exact ⟨rfl, rfl⟩

set_option maxRecDepth 100000 in
set_option maxHeartbeats 400000 in
theorem npromise (v : Value) (n : Int) (w : World) (h : Nt w v) : Calls Try.prog 11 #[v, .int .i64 n, .slice none 0 0] w fun e w' => e = .returned (.int .i64 2) ∧ Kp (fun _ => False) w w' := by
  have H : Hid (∀ u, Kp (fun _ => False) w u → Calls _ _ _ u _) := fun u k => nmade v u (h.keep k)
  clear h
  go_enter Try.func11, Try.ntmps11
  go_wp2_with (go_at_call 33; refine (H.out _ (by exact Kp.refl _ _)).mono ?_; rintro e w' ⟨rfl, rfl⟩)
  go_ret
  exact ⟨rfl, Kp.refl _ _⟩

set_option maxRecDepth 100000 in
set_option maxHeartbeats 400000 in
theorem npropose (v : Value) (n : Int) (ca : Array Value) (w : World) (h : Nt w v) : Calls Try.prog 13 #[v, .int .i64 n, .agg ca] w fun e w' => e = .returned (.int .i64 2) ∧ Kp (fun _ => False) w w' := by
  have H : Hid (∀ u, Kp (fun _ => False) w u → Calls _ _ _ u _) := fun u k => nmade v u (h.keep k)
  clear h
  go_enter Try.func13, Try.ntmps13
  go_wp2_with (go_at_call 33; refine (H.out _ (by exact (Kp.refl _ _).alloc _)).mono ?_; rintro e w' ⟨rfl, rfl⟩)
  go_ret
  exact ⟨rfl, (Kp.refl _ _).alloc _⟩

set_option maxRecDepth 100000 in
set_option maxHeartbeats 400000 in
theorem naccepted (v : Value) (n z : Int) (w : World) (h : Nt w v) : Calls Try.prog 15 #[v, .int .i64 n, .int .i64 z] w fun e w' => e = .returned (.int .i64 2) ∧ Kp (fun _ => False) w w' := by
  have H : Hid (∀ u, Kp (fun _ => False) w u → Calls _ _ _ u _) := fun u k => nmade v u (h.keep k)
  clear h
  go_enter Try.func15, Try.ntmps15
  go_wp2_with (go_at_call 33; refine (H.out _ (by exact Kp.refl _ _)).mono ?_; rintro e w' ⟨rfl, rfl⟩)
  go_ret
  exact ⟨rfl, Kp.refl _ _⟩

set_option maxRecDepth 100000 in
set_option maxHeartbeats 400000 in
theorem nleads (v : Value) (x : Value) (w : World) (h : Nt w v) : Calls Try.prog 22 #[v, x] w fun e w' => e = .returned (.bool false) ∧ Kp (fun _ => False) w w' := by
  have H : Hid (∀ u, Kp (fun _ => False) w u → Calls _ _ _ u _) := fun u k => nmade v u (h.keep k)
  clear h
  go_enter Try.func22, Try.ntmps22
  go_wp2_with (go_at_call 33; refine (H.out _ (by exact Kp.refl _ _)).mono ?_; rintro e w' ⟨rfl, rfl⟩)
  go_ret
  exact ⟨rfl, Kp.refl _ _⟩

set_option maxRecDepth 100000 in
set_option maxHeartbeats 400000 in
theorem nchosen (v : Value) (z : Int) (x : Value) (w : World) (h : Nt w v) : Calls Try.prog 24 #[v, .int .i64 z, x] w fun e w' => e = .returned (.bool false) ∧ Kp (fun _ => False) w w' := by
  have H : Hid (∀ u, Kp (fun _ => False) w u → Calls _ _ _ u _) := fun u k => nmade v u (h.keep k)
  clear h
  go_enter Try.func24, Try.ntmps24
  go_wp2_with (go_at_call 33; refine (H.out _ (by exact Kp.refl _ _)).mono ?_; rintro e w' ⟨rfl, rfl⟩)
  go_ret
  exact ⟨rfl, Kp.refl _ _⟩

set_option maxRecDepth 100000 in
set_option maxHeartbeats 400000 in
theorem nnext (v : Value) (w : World) (h : Nt w v) : Calls Try.prog 26 #[v] w fun e w' => e = .returned (.int .i64 0) ∧ Kp (fun _ => False) w w' := by
  have H : Hid (∀ u, Kp (fun _ => False) w u → Calls _ _ _ u _) := fun u k => nmade v u (h.keep k)
  clear h
  go_enter Try.func26, Try.ntmps26
  go_wp2_with (go_at_call 33; refine (H.out _ (by exact Kp.refl _ _)).mono ?_; rintro e w' ⟨rfl, rfl⟩)
  go_ret
  exact ⟨rfl, Kp.refl _ _⟩

set_option maxRecDepth 100000 in
set_option maxHeartbeats 400000 in
theorem nballot (v : Value) (w : World) (h : Nt w v) : Calls Try.prog 31 #[v] w fun e w' => e = .returned (.int .i64 0) ∧ Kp (fun _ => False) w w' := by
  have H : Hid (∀ u, Kp (fun _ => False) w u → Calls _ _ _ u _) := fun u k => nmade v u (h.keep k)
  clear h
  go_enter Try.func31, Try.ntmps31
  go_wp2_with (go_at_call 33; refine (H.out _ (by exact Kp.refl _ _)).mono ?_; rintro e w' ⟨rfl, rfl⟩)
  go_ret
  exact ⟨rfl, Kp.refl _ _⟩

set_option maxRecDepth 100000 in
set_option maxHeartbeats 400000 in
theorem nopen (v : Value) (w : World) (h : Nt w v) : Calls Try.prog 29 #[v] w fun e w' => e = .returned (.slice none 0 0) ∧ Kp (fun _ => False) w w' := by
  have H : Hid (∀ u, Kp (fun _ => False) w u → Calls _ _ _ u _) := fun u k => nmade v u (h.keep k)
  clear h
  go_enter Try.func29, Try.ntmps29
  go_wp2_with (go_at_call 33; refine (H.out _ (by exact Kp.refl _ _)).mono ?_; rintro e w' ⟨rfl, rfl⟩)
  go_ret
  exact ⟨rfl, Kp.refl _ _⟩

set_option maxRecDepth 100000 in
set_option maxHeartbeats 800000 in
theorem nbound (v : Value) (z : Int) (w : World) (h : Nt w v) : Calls Try.prog 17 #[v, .int .i64 z] w fun e w' => e = .returned (.tuple #[.agg zeroC, .bool false]) ∧ Kp (fun _ => False) w w' := by
  have H : Hid (∀ u, Kp (fun _ => False) w u → Calls _ _ _ u _) := fun u k => nmade v u (h.keep k)
  have HO1 : Hid (zeroC.toList.toArray.all (·.oneCell') = true) := cmd_one cs00 (v := nil0) rfl
  clear h
  go_enter Try.func17, Try.ntmps17
  go_wp2_with fail
  obtain ⟨u, hu⟩ : ∃ x, x = w.alloc (.cells zeroC 35) := ⟨_, rfl⟩
  have HL0 : Hid (Lv u w.heap.size zeroC.toList) := by rw [hu]; exact Lv.new w _ _
  have k0 : Kp (fun _ => False) w u := by rw [hu]; exact (Kp.refl _ _).alloc _
  have e0 : w.alloc (.cells zeroC 35) = u := hu.symm
  simp only [zeroC] at e0
  rw [e0]
  clear e0 hu
  obtain ⟨g, hg⟩ : ∃ g, g = w.heap.size := ⟨_, rfl⟩
  rw [← hg] at HL0 ⊢
  have HG : Hid (w.heap.size ≤ g) := by show _ ≤ _; omega
  clear hg
  refine (H.out _ k0).mono ?_
  rintro e w' ⟨rfl, hw⟩
  obtain rfl := hw.symm
  clear hw H
  go_wp2_with (refine wpList_store_all rfl 35 _ _ rfl 12 g zeroC.toList zeroC.toList rfl rfl HL0.out szCmd rfl rfl HO1.out ?_; intro u3 hl3 k3)
  have hld := hl3.load dsCmd szCmd rfl
  refine bodyPost_ret (res_cell_tmp Try.results17 _ _ g _ rfl hld) rfl ?_
  exact ⟨rfl, k0.trans k3 (fun b hb e => by have := HG.out; omega)⟩

set_option maxRecDepth 100000 in
set_option maxHeartbeats 800000 in
theorem nproposed (v : Value) (z : Int) (w : World) (h : Nt w v) : Calls Try.prog 19 #[v, .int .i64 z] w fun e w' => e = .returned (.tuple #[.agg zeroC, .bool false]) ∧ Kp (fun _ => False) w w' := by
  have H : Hid (∀ u, Kp (fun _ => False) w u → Calls _ _ _ u _) := fun u k => nmade v u (h.keep k)
  have HO1 : Hid (zeroC.toList.toArray.all (·.oneCell') = true) := cmd_one cs00 (v := nil0) rfl
  clear h
  go_enter Try.func19, Try.ntmps19
  go_wp2_with fail
  obtain ⟨u, hu⟩ : ∃ x, x = w.alloc (.cells zeroC 35) := ⟨_, rfl⟩
  have HL0 : Hid (Lv u w.heap.size zeroC.toList) := by rw [hu]; exact Lv.new w _ _
  have k0 : Kp (fun _ => False) w u := by rw [hu]; exact (Kp.refl _ _).alloc _
  have e0 : w.alloc (.cells zeroC 35) = u := hu.symm
  simp only [zeroC] at e0
  rw [e0]
  clear e0 hu
  obtain ⟨g, hg⟩ : ∃ g, g = w.heap.size := ⟨_, rfl⟩
  rw [← hg] at HL0 ⊢
  have HG : Hid (w.heap.size ≤ g) := by show _ ≤ _; omega
  clear hg
  refine (H.out _ k0).mono ?_
  rintro e w' ⟨rfl, hw⟩
  obtain rfl := hw.symm
  clear hw H
  go_wp2_with (refine wpList_store_all rfl 35 _ _ rfl 12 g zeroC.toList zeroC.toList rfl rfl HL0.out szCmd rfl rfl HO1.out ?_; intro u3 hl3 k3)
  have hld := hl3.load dsCmd szCmd rfl
  refine bodyPost_ret (res_cell_tmp Try.results19 _ _ g _ rfl hld) rfl ?_
  exact ⟨rfl, k0.trans k3 (fun b hb e => by have := HG.out; omega)⟩

abbrev zeroT : Array Value := #[.int .i64 0, .int .i64 0, .int .i64 0, .bool false, .bool false, .bool false, .bool false, .bool false, .bool false, .bool false, .bool false, .bool false, .bool false, .bool false, .bool false, .bool false, .bool false, .bool false, .bool false, .map none, .map none]
set_option maxRecDepth 100000 in
set_option maxHeartbeats 4000000 in
theorem leadNobody_walk (i j : Int) (cs : Array Value) (w : World) (hcs : cs.size = 12) :
    Calls Try.prog 7 #[.int .i64 i, .int .i64 j, .agg cs] w fun e w' => e = .returned (.bool true) ∧ Kp (fun _ => False) w w' := by
  have HC : Hid (cs.toList.length = 12) := by show _ = _; simpa using hcs
  have HO1 : Hid (zeroC.toList.toArray.all (·.oneCell') = true) := cmd_one cs00 (v := nil0) rfl
  clear hcs
  go_enter Try.func7, Try.ntmps7
  go_wp2_with fail
  obtain ⟨u, hu⟩ : ∃ x, x = ((w.alloc (.cells cs 35)).alloc (.cells zeroT 65)).alloc (.cells #[.pointer none, .pointer (some ⟨w.heap.size + 1, 0, none⟩)] 24) := ⟨_, rfl⟩
  have hu' := hu.symm
  simp only [zeroT] at hu'
  rw [hu']
  have z1 : (w.alloc (.cells cs 35)).heap.size = w.heap.size + 1 := by simp
  have z2 : ((w.alloc (.cells cs 35)).alloc (.cells zeroT 65)).heap.size = w.heap.size + 1 + 1 := by simp
  have k0 : Kp (fun _ => False) w u := by rw [hu]; exact (((Kp.refl _ _).alloc _).alloc _).alloc _
  have HLb : Hid (Lv u w.heap.size cs.toList) := by rw [hu]; exact ((Lv.new w cs 35).keep ((Kp.refl (fun _ => False) _).alloc _) id).keep ((Kp.refl (fun _ => False) _).alloc _) id
  have l2 : Lv u (w.heap.size + 1) zeroT.toList := by rw [hu, ← z1]; exact (Lv.new _ _ _).keep ((Kp.refl (fun _ => False) _).alloc _) id
  have l3 : Lv u (w.heap.size + 1 + 1) [.pointer none, .pointer (some ⟨w.heap.size + 1, 0, none⟩)] := by rw [hu, ← z2]; exact Lv.new _ _ _
  have HEa : Hid (∀ j : Nat, j < 2 → ∃ pv, u.cell? ⟨w.heap.size + 1 + 1, j, none⟩ = some pv ∧ Nt u pv) := fun j hj => by
    have hj2 : j = 0 ∨ j = 1 := by omega
    rcases hj2 with rfl | rfl
    · exact ⟨_, l3.cell (j := 0) rfl, Or.inl rfl⟩
    · exact ⟨_, l3.cell (j := 1) rfl, Or.inr ⟨_, rfl, l2.cell (j := 0) rfl⟩⟩
  obtain ⟨g, hg⟩ : ∃ g, g = w.heap.size := ⟨_, rfl⟩
  obtain ⟨r, hr⟩ : ∃ r, r = w.heap.size + 1 + 1 := ⟨_, rfl⟩
  obtain ⟨t, ht⟩ : ∃ t, t = w.heap.size + 1 := ⟨_, rfl⟩
  rw [← hr] at HEa ⊢
  rw [← ht]
  rw [← hg] at HLb ⊢
  obtain ⟨dC, hdC1, hdC2⟩ := dsCmd
  clear hu hu' z1 z2 l2 l3 hg hr ht
  go_loopg [17] 2 (fun gk i wr => ∃ (j : Nat), j ≤ 2 ∧ gk = 2 - j ∧ i = .int .i64 j ∧ Kp (fun _ => False) u wr)
  case atStart => exact ⟨0, by omega, rfl, rfl, Kp.refl _ _⟩
  case round =>
    obtain ⟨k, hk, rfl, rfl, kr⟩ := hrel
    obtain ⟨wr0, rfl⟩ : ∃ x, x = wr := ⟨_, rfl⟩
    by_cases hlt : (k : Int) < 2
    · obtain ⟨pv, hpv, hnp⟩ := HEa.out k (by omega)
      have cp := kr.cellv hpv id
      have HN : Hid (∀ z, Kp (fun _ => False) wr0 z → Nt z pv) := fun z kz => (hnp.keep kr).keep kz
      have HLr : Hid (∀ z, Kp (fun _ => False) wr0 z → Lv z g cs.toList) := fun z kz => (HLb.out.keep kr id).keep kz id
      clear hpv hnp
      go_wp2_with fail
      refine (nbound pv j wr0 (HN.out _ (Kp.refl _ _))).mono ?_
      rintro e w1 ⟨rfl, k1⟩
      have K1 : Hid (Kp (fun _ => False) wr0 w1) := k1
      clear k1
      go_wp2_with (refine wpList_store_all rfl 35 _ _ rfl 12 w1.heap.size zeroC.toList zeroC.toList rfl rfl (by exact Lv.new w1 _ _) szCmd rfl rfl HO1.out ?_; intro w2 hl2 k2; have K2 : Hid (Kp (fun _ => False) wr0 w2) := (K1.out.alloc _).trans k2 (fun b hb e => by have := K1.out.size; omega); clear hl2 k2)
      refine (nproposed pv j w2 (HN.out _ K2.out)).mono ?_
      rintro e w3 ⟨rfl, k3⟩
      have K3 : Hid (Kp (fun _ => False) wr0 w3) := K2.out.trans k3 (fun _ _ e => e)
      clear k3
      go_wp2_with (refine wpList_store_all rfl 35 _ _ rfl 12 w3.heap.size zeroC.toList zeroC.toList rfl rfl (by exact Lv.new w3 _ _) szCmd rfl rfl HO1.out ?_; intro w4 hl4 k4; have K4 : Hid (Kp (fun _ => False) wr0 w4) := (K3.out.alloc _).trans k4 (fun b hb e => by have := K3.out.size; omega); clear hl4 k4)
      refine (npromise pv i w4 (HN.out _ K4.out)).mono ?_
      rintro e w5 ⟨rfl, k5⟩
      have K5 : Hid (Kp (fun _ => False) wr0 w5) := K4.out.trans k5 (fun _ _ e => e)
      have HR5 : Hid (w5.rangeAt g 0 cs.toList) := (HLr.out _ K5.out).r
      clear k5
      go_wp2_with (refine wpList_ldw (by first | rfl | go_simp) 35 _ rfl g 0 rfl cs.toList dC HR5.out hdC1 hdC2 (by rw [szCmd, HC.out]) ?_; rw [Array.toArray_toList])
      refine (npropose pv j cs w5 (HN.out _ K5.out)).mono ?_
      rintro e w6 ⟨rfl, k6⟩
      have K6 : Hid (Kp (fun _ => False) wr0 w6) := K5.out.trans k6 (fun _ _ e => e)
      clear k6
      go_wp2_with fail
      refine (naccepted pv i j w6 (HN.out _ K6.out)).mono ?_
      rintro e w7 ⟨rfl, k7⟩
      have K7 : Hid (Kp (fun _ => False) wr0 (w7.alloc (.cells #[.int .i64 0] 3))) := (K6.out.trans k7 (fun _ _ e => e)).alloc _
      clear k7
      go_wp2_with fail
      refine (nleads pv _ _ (HN.out _ K7.out)).mono ?_
      rintro e w8 ⟨rfl, k8⟩
      have K8 : Hid (Kp (fun _ => False) wr0 (w8.alloc (.cells #[.int .i64 0] 3))) := (K7.out.trans k8 (fun _ _ e => e)).alloc _
      clear k8
      go_wp2_with fail
      refine (nchosen pv j _ _ (HN.out _ K8.out)).mono ?_
      rintro e w9 ⟨rfl, k9⟩
      have K9 : Hid (Kp (fun _ => False) wr0 w9) := K8.out.trans k9 (fun _ _ e => e)
      clear k9
      go_wp2_with fail
      refine (nnext pv w9 (HN.out _ K9.out)).mono ?_
      rintro e wa ⟨rfl, ka⟩
      have Ka : Hid (Kp (fun _ => False) wr0 wa) := K9.out.trans ka (fun _ _ e => e)
      clear ka
      go_wp2_with fail
      refine (nballot pv wa (HN.out _ Ka.out)).mono ?_
      rintro e wb ⟨rfl, kb⟩
      have Kb : Hid (Kp (fun _ => False) wr0 wb) := Ka.out.trans kb (fun _ _ e => e)
      clear kb
      go_wp2_with fail
      refine (nopen pv wb (HN.out _ Kb.out)).mono ?_
      rintro e wc ⟨rfl, kc⟩
      have Kc : Hid (Kp (fun _ => False) wr0 wc) := Kb.out.trans kc (fun _ _ e => e)
      clear kc
      go_wp2
      go_roundg (2 - (k + 1))
      case rel => exact ⟨k + 1, by omega, rfl, by go_num, kr.trans Kc.out (fun _ _ e => e)⟩
      case measure => omega
    · have k0r := k0.trans kr (fun _ _ e => e)
      have HCh : Hid (Calls _ _ _ wr0 _) := leadChooses_walk (.slice none 0 0) 0 1 wr0 ⟨none, 0, [], rfl, rfl, Nat.le_refl _, fun j hj => absurd hj (Nat.not_lt_zero _), by omega⟩
      go_wp2_with (go_at_call 6; refine HCh.out.mono ?_; rintro e w3 ⟨rfl, k3⟩)
      go_ret
      exact ⟨rfl, k0r.trans k3 (fun _ _ e => e)⟩
end Go.Proofs.Ytjpdbhkggcojaaa
