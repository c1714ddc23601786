/- Chains that no call made; the walk of the law ChainNobody. -/
import Derived.Test.YtjbgpbafgpdciaaCl
import Derived.Test.YtjbgpbafgpdciaaCt
namespace Go.Proofs.Ytjbgpbafgpdciaa
set_option linter.unusedVariables false
open Go.RowKit Go.Deep Go.Maps

/-- nobody made the chain that v points to -/
def Nt (w : World) (v : Value) : Prop := v = .pointer none ∨ ∃ b, v = .pointer (some ⟨b, 0, none⟩) ∧ w.cell? ⟨b, 0, none⟩ = some (.map none)
theorem Nt.keep {w w' : World} {v : Value} (h : Nt w v) (k : Kp (fun _ => False) w w') : Nt w' v := by
  rcases h with h | ⟨b, h, hc⟩
  · exact Or.inl h
  · exact Or.inr ⟨b, h, k.cellv hc id⟩

set_option maxRecDepth 100000 in
theorem nmade (v : Value) (w : World) (h : Nt w v) : Calls Try.prog 22 #[v] w fun e w' => e = .returned (.bool false) ∧ w' = w := by
  have hne := neq_none_cmap w
  rcases h with rfl | ⟨b, rfl, hc⟩
  · go_enter Try.func22, Try.ntmps22
    go_wp2
    go_ret
    exact ⟨rfl, rfl⟩
  · go_enter Try.func22, Try.ntmps22
    go_wp2
    go_ret
    exact ⟨rfl, rfl⟩

set_option maxRecDepth 100000 in
set_option maxHeartbeats 400000 in
theorem nlearn (v : Value) (n : Int) (ca : Array Value) (w : World) (h : Nt w v) : Calls Try.prog 10 #[v, .int .i64 n, .agg ca] w fun e w' => e = .returned (.int .i64 2) ∧ Kp (fun _ => False) w w' := by
  have H : Hid (∀ u, Kp (fun _ => False) w u → Calls _ _ _ u _) := fun u k => nmade v u (h.keep k)
  clear h
  go_enter Try.func10, Try.ntmps10
  go_wp2_with (go_at_call 22; refine (H.out _ (by exact (Kp.refl _ _).alloc _)).mono ?_; rintro e w' ⟨rfl, rfl⟩)
  go_ret
  exact ⟨rfl, (Kp.refl _ _).alloc _⟩

set_option maxRecDepth 100000 in
set_option maxHeartbeats 400000 in
theorem nnext (v : Value) (w : World) (h : Nt w v) : Calls Try.prog 12 #[v] w fun e w' => e = .returned (.int .i64 0) ∧ Kp (fun _ => False) w w' := by
  have H : Hid (∀ u, Kp (fun _ => False) w u → Calls _ _ _ u _) := fun u k => nmade v u (h.keep k)
  clear h
  go_enter Try.func12, Try.ntmps12
  go_wp2_with (go_at_call 22; refine (H.out _ (by exact Kp.refl _ _)).mono ?_; rintro e w' ⟨rfl, rfl⟩)
  go_ret
  exact ⟨rfl, Kp.refl _ _⟩

set_option maxRecDepth 100000 in
set_option maxHeartbeats 800000 in
theorem nget (v : Value) (z : Int) (w : World) (h : Nt w v) : Calls Try.prog 14 #[v, .int .i64 z] w fun e w' => e = .returned (.tuple #[.agg zeroC, .bool false]) ∧ Kp (fun _ => False) w w' := by
  have H : Hid (∀ u, Kp (fun _ => False) w u → Calls _ _ _ u _) := fun u k => nmade v u (h.keep k)
  have HO1 : Hid (zeroC.toList.toArray.all (·.oneCell') = true) := cmd_one cs00 (v := nil0) rfl
  clear h
  go_enter Try.func14, Try.ntmps14
  go_wp2_with fail
  obtain ⟨u, hu⟩ : ∃ x, x = w.alloc (.cells zeroC 34) := ⟨_, rfl⟩
  have HL0 : Hid (Lv u w.heap.size zeroC.toList) := by rw [hu]; exact Lv.new w _ _
  have k0 : Kp (fun _ => False) w u := by rw [hu]; exact (Kp.refl _ _).alloc _
  have e0 : w.alloc (.cells zeroC 34) = u := hu.symm
  simp only [zeroC] at e0
  rw [e0]
  clear e0 hu
  obtain ⟨g, hg⟩ : ∃ g, g = w.heap.size := ⟨_, rfl⟩
  rw [← hg] at HL0 ⊢
  have HG : Hid (w.heap.size ≤ g) := by show _ ≤ _; omega
  clear hg
  refine (H.out _ k0).mono ?_
  rintro e w' ⟨rfl, hw⟩
  obtain rfl := hw.symm
  clear hw H
  go_wp2_with (refine wpList_store_all rfl 34 _ _ rfl 12 g zeroC.toList zeroC.toList rfl rfl HL0.out szCmd rfl rfl HO1.out ?_; intro u3 hl3 k3)
  have hld := hl3.load dsCmd szCmd rfl
  refine bodyPost_ret (res_cell_tmp Try.results14 _ _ g _ rfl hld) rfl ?_
  exact ⟨rfl, k0.trans k3 (fun b hb e => by have := HG.out; omega)⟩

set_option maxRecDepth 100000 in
set_option maxHeartbeats 800000 in
theorem nfrom (v : Value) (s : Int) (w : World) (h : Nt w v) : Calls Try.prog 18 #[v, .int .i64 s, .int .i64 5] w fun e w' => e = .returned (.slice none 0 0) ∧ Kp (fun _ => False) w w' := by
  have HO1 : Hid (zeroC.toList.toArray.all (·.oneCell') = true) := cmd_one cs00 (v := nil0) rfl
  obtain ⟨s1, hs1⟩ : ∃ s1, s1 = max s 1 := ⟨_, rfl⟩
  have hmx : max s 1 = s1 := hs1.symm
  have H : Hid (Calls _ _ _ w _) := nget v s1 w h
  clear h hs1
  go_enter Try.func18, Try.ntmps18
  go_wp2
  go_loopg [1, 7] 1 (fun gk sv rv wr => gk = 1 ∧ sv = .int .i64 s1 ∧ rv = .slice none 0 0 ∧ wr = w)
  case atStart => exact ⟨rfl, rfl, rfl, rfl⟩
  case round =>
    obtain ⟨rfl, rfl, rfl, rfl⟩ := hrel
    go_wp2_with fail
    refine H.out.mono ?_
    rintro e w1 ⟨rfl, k1⟩
    clear H
    go_wp2_with (refine wpList_store_all rfl 34 _ _ rfl 12 w1.heap.size zeroC.toList zeroC.toList rfl rfl (by exact Lv.new w1 _ _) szCmd rfl rfl HO1.out ?_; intro w2 hl2 k2)
    go_ret
    exact ⟨rfl, (k1.alloc _).trans k2 (fun b hb e => by have := k1.size; omega)⟩

set_option maxRecDepth 100000 in
set_option maxHeartbeats 4000000 in
theorem chainNobody_walk (i : Int) (cs : Array Value) (w : World) (hcs : cs.size = 12) :
    Calls Try.prog 7 #[.int .i64 i, .agg cs] w fun e w' => e = .returned (.bool true) ∧ Kp (fun _ => False) w w' := by
  have HC : Hid (cs.toList.length = 12) := by show _ = _; simpa using hcs
  have HO1 : Hid (zeroC.toList.toArray.all (·.oneCell') = true) := cmd_one cs00 (v := nil0) rfl
  have HSm : Hid (∀ u, Calls _ _ _ u _) := fun u => psame_ok cs00 cs00 (fun _ => False) (fun _ => False) [] [] nil0 nil0 u ⟨none, 0, rfl, fun j u hu => (by cases hu), by simp⟩ ⟨none, 0, rfl, fun j u hu => (by cases hu), by simp⟩
  have ezc : cmdA cs00 nil0 = zeroC := rfl
  rw [ezc] at HSm
  clear hcs ezc
  go_enter Try.func7, Try.ntmps7
  go_wp2_with fail
  obtain ⟨u, hu⟩ : ∃ x, x = ((w.alloc (.cells cs 34)).alloc (.cells #[.map none, .int .i64 0] 55)).alloc (.cells #[.pointer none, .pointer (some ⟨w.heap.size + 1, 0, none⟩)] 23) := ⟨_, rfl⟩
  rw [← hu]
  have z1 : (w.alloc (.cells cs 34)).heap.size = w.heap.size + 1 := by simp
  have z2 : ((w.alloc (.cells cs 34)).alloc (.cells #[.map none, .int .i64 0] 55)).heap.size = w.heap.size + 1 + 1 := by simp
  have k0 : Kp (fun _ => False) w u := by rw [hu]; exact (((Kp.refl _ _).alloc _).alloc _).alloc _
  have HLb : Hid (Lv u w.heap.size cs.toList) := by rw [hu]; exact ((Lv.new w cs 34).keep ((Kp.refl (fun _ => False) _).alloc _) id).keep ((Kp.refl (fun _ => False) _).alloc _) id
  have l2 : Lv u (w.heap.size + 1) [.map none, .int .i64 0] := by rw [hu, ← z1]; exact (Lv.new _ #[.map none, .int .i64 0] _).keep ((Kp.refl (fun _ => False) _).alloc _) id
  have l3 : Lv u (w.heap.size + 1 + 1) [.pointer none, .pointer (some ⟨w.heap.size + 1, 0, none⟩)] := by rw [hu, ← z2]; exact Lv.new _ _ _
  have HEa : Hid (∀ j : Nat, j < 2 → ∃ pv, u.cell? ⟨w.heap.size + 1 + 1, j, none⟩ = some pv ∧ Nt u pv) := fun j hj => by
    have hj2 : j = 0 ∨ j = 1 := by omega
    rcases hj2 with rfl | rfl
    · exact ⟨_, l3.cell (j := 0) rfl, Or.inl rfl⟩
    · exact ⟨_, l3.cell (j := 1) rfl, Or.inr ⟨_, rfl, l2.cell (j := 0) rfl⟩⟩
  obtain ⟨g, hg⟩ : ∃ g, g = w.heap.size := ⟨_, rfl⟩
  obtain ⟨r, hr⟩ : ∃ r, r = w.heap.size + 1 + 1 := ⟨_, rfl⟩
  obtain ⟨t, ht⟩ : ∃ t, t = w.heap.size + 1 := ⟨_, rfl⟩
  rw [← hr] at HEa ⊢
  rw [← ht]
  rw [← hg] at HLb ⊢
  obtain ⟨dC, hdC1, hdC2⟩ := dsCmd
  clear hu z1 z2 l2 l3 hg hr ht
  go_loopg [13] 2 (fun gk i wr => ∃ (j : Nat), j ≤ 2 ∧ gk = 2 - j ∧ i = .int .i64 j ∧ Kp (fun _ => False) u wr)
  case atStart => exact ⟨0, by omega, rfl, rfl, Kp.refl _ _⟩
  case round =>
    obtain ⟨k, hk, rfl, rfl, kr⟩ := hrel
    obtain ⟨wr0, rfl⟩ : ∃ x, x = wr := ⟨_, rfl⟩
    by_cases hlt : (k : Int) < 2
    · obtain ⟨pv, hpv, hnp⟩ := HEa.out k (by omega)
      have cp := kr.cellv hpv id
      have HN : Hid (∀ z, Kp (fun _ => False) wr0 z → Nt z pv) := fun z kz => (hnp.keep kr).keep kz
      have HLr : Hid (∀ z, Kp (fun _ => False) wr0 z → Lv z g cs.toList) := fun z kz => (HLb.out.keep kr id).keep kz id
      clear hpv hnp
      go_wp2_with fail
      refine (nget pv i wr0 (HN.out _ (Kp.refl _ _))).mono ?_
      rintro e w1 ⟨rfl, k1⟩
      have K1 : Hid (Kp (fun _ => False) wr0 w1) := k1
      clear k1
      go_wp2_with (first
        | (refine wpList_store_all rfl 34 _ _ rfl 12 w1.heap.size zeroC.toList zeroC.toList rfl rfl (by exact Lv.new w1 _ _) szCmd rfl rfl HO1.out ?_; intro w2 hl2 k2; have K2 : Hid (Kp (fun _ => False) wr0 w2) := (K1.out.alloc _).trans k2 (fun b hb e => by have := K1.out.size; omega); have HL2 : Hid (Lv w2 w1.heap.size zeroC.toList) := hl2; have HR2 : Hid (w2.rangeAt g 0 cs.toList) := (HLr.out _ K2.out).r; clear hl2 k2)
        | (refine wpList_ldw (by first | rfl | go_simp) 34 _ rfl g 0 rfl cs.toList dC HR2.out hdC1 hdC2 (by rw [szCmd, HC.out]) ?_; rw [Array.toArray_toList]))
      refine (nlearn pv i cs w2 (HN.out _ K2.out)).mono ?_
      rintro e w3 ⟨rfl, k3⟩
      have K3 : Hid (Kp (fun _ => False) wr0 w3) := K2.out.trans k3 (fun _ _ e => e)
      have HL3 : Hid (w3.rangeAt w1.heap.size 0 zeroC.toList) := (HL2.out.keep k3 id).r
      clear k3
      go_wp2_with (refine wpList_ldw (by first | rfl | go_simp) 34 _ rfl w1.heap.size 0 rfl zeroC.toList dC HL3.out hdC1 hdC2 (by rw [szCmd]; rfl) ?_; rw [Array.toArray_toList])
      refine (HSm.out w3).mono ?_
      rintro e w4 ⟨b, rfl, hb, k4⟩
      obtain rfl : b = true := by simpa using hb
      have K4 : Hid (Kp (fun _ => False) wr0 w4) := K3.out.trans k4 (fun _ _ e => e)
      clear k4 hb
      go_wp2_with fail
      refine (nnext pv w4 (HN.out _ K4.out)).mono ?_
      rintro e w5 ⟨rfl, k5⟩
      have K5 : Hid (Kp (fun _ => False) wr0 w5) := K4.out.trans k5 (fun _ _ e => e)
      clear k5
      go_wp2_with fail
      refine (nfrom pv i w5 (HN.out _ K5.out)).mono ?_
      rintro e w6 ⟨rfl, k6⟩
      have K6 : Hid (Kp (fun _ => False) wr0 w6) := K5.out.trans k6 (fun _ _ e => e)
      clear k6
      go_wp2
      go_roundg (2 - (k + 1))
      case rel => exact ⟨k + 1, by omega, rfl, by go_num, kr.trans K6.out (fun _ _ e => e)⟩
      case measure => omega
    · have k0r := k0.trans kr (fun _ _ e => e)
      have HNw : Hid (Calls _ _ _ wr0 _) := cnew_ok wr0
      clear HSm HEa HLb
      go_wp2_with fail
      refine HNw.out.mono ?_
      rintro e w1 ⟨t1, m1, rfl, k1, _, _, hch⟩
      have HX : Hid (Calls _ _ _ w1 _) := cnext_ok hch
      clear hch
      go_wp2_with fail
      refine HX.out.mono ?_
      rintro e w2 ⟨rfl, hw2⟩
      obtain rfl := hw2
      go_wp2
      go_ret
      exact ⟨rfl, k0r.trans k1 (fun _ _ e => e)⟩

end Go.Proofs.Ytjbgpbafgpdciaa
