/- EpochNobody (laid by scripts/mkwl.py). -/
import Derived.Test.YtfeecopjacpjnaaGreatWk
namespace Go.Proofs.YtfeecopjacpjnaaGreat
set_option linter.unusedVariables false
set_option linter.unusedSimpArgs false
open Go.RowKit Go.Deep Go.Maps

theorem wpList_ldZ {ops : Array Oper} {rest : List Oper} {op : Oper} {a : Act} {w : World} {Q : Exit → Act → World → Prop} (hw : Region.wanted op (yielded ops a.tmps) = true) (ty : TypeId) (x : Operand) (ho : op.op = .load ty x)
    (b o : Nat) (hx : a.eval x = .pointer (some ⟨b, o, none⟩)) (cs : List Value) (d : TypeDesc) (hc : w.rangeAt b o cs)
    (hu : Tryz.prog.underlying ty = some d) (hd : d.isRow = true) (hi : (Tryz.prog.info? ty).map (·.size) = some cs.length)
    (h : wpList Tryz.prog ops Q rest (a.put op.dst (.agg cs.toArray)) w) : wpList Tryz.prog ops Q (op :: rest) a w :=
  wpList_step fun K hK => by simp only [hw, if_true]; exact wp_load_mid ty x ho b o hx cs d hc hu hd hi (hK _ _ h)
theorem szCmdZ : (Tryz.prog.info? 27).map (·.size) = some 12 := by kernel_rfl
theorem dsCmdZ : ∃ d, Tryz.prog.underlying 27 = some d ∧ d.isRow = true := ⟨_, Tryz.underlying27, rfl⟩

set_option maxRecDepth 100000 in
set_option maxHeartbeats 1600000 in
theorem zm_Same (v v2 : Value) (w : World) (h : Nz w v) : Calls Tryz.prog 18 #[v, v2] w fun e w' => e = .returned (.bool false) ∧ Kp (fun _ => False) w w' := by
  have H : Hid (∀ n, Calls Tryz.prog 21 #[v] (w.drewN n) fun e w' => e = .returned (.bool false) ∧ w' = w.drewN n) := fun n => zmade v _ (h.keep ((Kp.refl _ _).drewN n))
  clear h
  go_enter Tryz.func18, Tryz.ntmps18
  go_wp2_with fail
  go_quiet (first | (go_at_call 21; refine Calls.quiet_of_same (H.out _)))
  go_wp2
  go_ret
  exact ⟨rfl, (Kp.refl _ _).drewN _⟩

set_option maxRecDepth 100000 in
set_option maxHeartbeats 6400000 in
theorem epochNobody_walk (cs : Array Value) (z : Int) (w : World) (hcs : cs.size = 12):
    Calls Tryz.prog 3 #[.agg cs, .int .i64 z] w fun e w' => e = .returned (.bool true) ∧ Kp (fun _ => False) w w' := by
  have HC : Hid (cs.toList.length = 12) := by show _ = _; simpa using hcs
  clear hcs
  go_enter Tryz.func3, Tryz.ntmps3
  go_wp2_with fail
  obtain ⟨u, hu⟩ : ∃ x, x = ((w.alloc (.cells cs 27)).alloc (.cells #[.int .i64 0, .int .i64 0, .int .i64 0, .bool false, .bool false, .bool false, .bool false, .bool false, .bool false, .bool false, .bool false, .bool false, .bool false, .bool false, .bool false, .bool false, .bool false, .bool false, .bool false, .bool false, .bool false, .bool false, .bool false, .bool false, .bool false, .bool false, .bool false, .bool false, .bool false, .bool false, .bool false, .bool false, .bool false, .bool false, .bool false, .slice none 0 0, .int .i64 0, .int .i64 0, .map none, .map none, .map none, .map none, .int .i64 0, .map none] 38)).alloc (.cells #[.pointer none, .pointer (some ⟨w.heap.size + 1, 0, none⟩)] 28) := ⟨_, rfl⟩
  have hu' := hu.symm
  rw [hu']
  have z1 : (w.alloc (.cells cs 27)).heap.size = w.heap.size + 1 := by simp
  have z2 : ((w.alloc (.cells cs 27)).alloc (.cells #[.int .i64 0, .int .i64 0, .int .i64 0, .bool false, .bool false, .bool false, .bool false, .bool false, .bool false, .bool false, .bool false, .bool false, .bool false, .bool false, .bool false, .bool false, .bool false, .bool false, .bool false, .bool false, .bool false, .bool false, .bool false, .bool false, .bool false, .bool false, .bool false, .bool false, .bool false, .bool false, .bool false, .bool false, .bool false, .bool false, .bool false, .slice none 0 0, .int .i64 0, .int .i64 0, .map none, .map none, .map none, .map none, .int .i64 0, .map none] 38)).heap.size = w.heap.size + 1 + 1 := by simp
  have k0 : Kp (fun _ => False) w u := by rw [hu]; exact (((Kp.refl _ _).alloc _).alloc _).alloc _
  have HLb : Hid (Lv u w.heap.size cs.toList) := by rw [hu]; exact ((Lv.new w cs 27).keep ((Kp.refl (fun _ => False) _).alloc _) id).keep ((Kp.refl (fun _ => False) _).alloc _) id
  have l2 : Lv u (w.heap.size + 1) [.int .i64 0, .int .i64 0, .int .i64 0, .bool false, .bool false, .bool false, .bool false, .bool false, .bool false, .bool false, .bool false, .bool false, .bool false, .bool false, .bool false, .bool false, .bool false, .bool false, .bool false, .bool false, .bool false, .bool false, .bool false, .bool false, .bool false, .bool false, .bool false, .bool false, .bool false, .bool false, .bool false, .bool false, .bool false, .bool false, .bool false, .slice none 0 0, .int .i64 0, .int .i64 0, .map none, .map none, .map none, .map none, .int .i64 0, .map none] := by rw [hu, ← z1]; exact (Lv.new _ #[.int .i64 0, .int .i64 0, .int .i64 0, .bool false, .bool false, .bool false, .bool false, .bool false, .bool false, .bool false, .bool false, .bool false, .bool false, .bool false, .bool false, .bool false, .bool false, .bool false, .bool false, .bool false, .bool false, .bool false, .bool false, .bool false, .bool false, .bool false, .bool false, .bool false, .bool false, .bool false, .bool false, .bool false, .bool false, .bool false, .bool false, .slice none 0 0, .int .i64 0, .int .i64 0, .map none, .map none, .map none, .map none, .int .i64 0, .map none] _).keep ((Kp.refl (fun _ => False) _).alloc _) id
  have l3 : Lv u (w.heap.size + 1 + 1) [.pointer none, .pointer (some ⟨w.heap.size + 1, 0, none⟩)] := by rw [hu, ← z2]; exact Lv.new _ #[.pointer none, .pointer (some ⟨w.heap.size + 1, 0, none⟩)] _
  have HEa : Hid (∀ j : Nat, j < 2 → ∃ pv, u.cell? ⟨w.heap.size + 1 + 1, j, none⟩ = some pv ∧ Nz u pv) := fun j hj => by
    have hj2 : j = 0 ∨ j = 1 := by omega
    rcases hj2 with rfl | rfl
    · exact ⟨_, l3.cell (j := 0) rfl, Or.inl rfl⟩
    · exact ⟨_, l3.cell (j := 1) rfl, Or.inr ⟨_, rfl, l2.cell (j := 0) rfl⟩⟩
  have HK0 : Hid (Kp (fun _ => False) w u) := k0
  obtain ⟨g, hg⟩ : ∃ g, g = w.heap.size := ⟨_, rfl⟩
  obtain ⟨r, hr⟩ : ∃ r, r = w.heap.size + 1 + 1 := ⟨_, rfl⟩
  obtain ⟨t, ht⟩ : ∃ t, t = w.heap.size + 1 := ⟨_, rfl⟩
  rw [← hr] at HEa ⊢
  rw [← ht]
  rw [← hg] at HLb ⊢
  clear hu hu' z1 z2 l2 l3 hg hr ht k0
  have HN1 : Hid (∀ u, Calls _ _ _ u _) := new1
  have HSm : Hid (∀ v u, Ep u v → Calls _ _ _ u _) := same1
  have HSo : Hid (∀ u, Calls _ _ _ u _) := sout0
  obtain ⟨dO, hdO1, hdO2⟩ := dsOutZ
  go_loopg [19] 2 (fun gk i wr => ∃ (j : Nat), j ≤ 2 ∧ gk = 2 - j ∧ i = .int .i64 j ∧ Hid (Kp (fun _ => False) u wr))
  case atStart => exact ⟨0, by omega, rfl, rfl, Kp.refl _ _⟩
  case round =>
    obtain ⟨k, hk, rfl, rfl, KR⟩ := hrel
    obtain ⟨wr0, rfl⟩ : ∃ x, x = wr := ⟨_, rfl⟩
    by_cases hlt : (k : Int) < 2
    · obtain ⟨pv, hpv, hnp⟩ := HEa.out k (by omega)
      have cp := KR.out.cellv hpv id
      have HN : Hid (∀ z, Kp (fun _ => False) wr0 z → Nz z pv) := fun z kz => (hnp.keep KR.out).keep kz
      have HLr : Hid (Lv wr0 g cs.toList) := HLb.out.keep KR.out id
      clear hpv hnp
      go_wp2_with (refine wpList_load_all rfl 27 _ rfl 12 g cs.toList rfl HLr.out dsCmdZ szCmdZ HC.out ?_; rw [Array.toArray_toList])
      refine (zm_Apply pv cs wr0 (HN.out _ (Kp.refl _ _))).mono ?_
      rintro e w1 ⟨rfl, k1⟩
      have K1 : Hid (Kp (fun _ => False) wr0 w1) := k1
      clear k1
      have K2 : Hid (Kp (fun _ => False) wr0 (w1.alloc (.cells #[.int .i64 0, .int .i64 0, .int .i64 0, .int .u32 0, .int .i64 0, .int .i64 0, .slice none 0 0, .int .i64 0] 43))) := K1.out.alloc _
      have HLo : Hid (Lv (w1.alloc (.cells #[.int .i64 0, .int .i64 0, .int .i64 0, .int .u32 0, .int .i64 0, .int .i64 0, .slice none 0 0, .int .i64 0] 43)) w1.heap.size [.int .i64 0, .int .i64 0, .int .i64 0, .int .u32 0, .int .i64 0, .int .i64 0, .slice none 0 0, .int .i64 0]) := Lv.new w1 #[.int .i64 0, .int .i64 0, .int .i64 0, .int .u32 0, .int .i64 0, .int .i64 0, .slice none 0 0, .int .i64 0] _
      go_wp2_with fail
      obtain ⟨w2, hw2⟩ : ∃ x, x = w1.alloc (.cells #[.int .i64 0, .int .i64 0, .int .i64 0, .int .u32 0, .int .i64 0, .int .i64 0, .slice none 0 0, .int .i64 0] 43) := ⟨_, rfl⟩
      rw [← hw2] at K2 HLo ⊢
      clear hw2
      obtain ⟨bo, hbo⟩ : ∃ x, x = w1.heap.size := ⟨_, rfl⟩
      rw [← hbo] at HLo ⊢
      clear hbo
      refine (zm_Blob pv _ w2 (HN.out _ K2.out)).mono ?_
      rintro e w3 ⟨rfl, k3⟩
      have K3 : Hid (Kp (fun _ => False) wr0 (w3.alloc (.cells #[.int .i64 0, .int .i64 0, .int .u32 0, .int .i64 0, .int .i64 0, .slice none 0 0] 41))) := (K2.out.trans k3 (fun _ _ e => e)).alloc _
      have HLp : Hid (Lv (w3.alloc (.cells #[.int .i64 0, .int .i64 0, .int .u32 0, .int .i64 0, .int .i64 0, .slice none 0 0] 41)) bo [.int .i64 0, .int .i64 0, .int .i64 0, .int .u32 0, .int .i64 0, .int .i64 0, .slice none 0 0, .int .i64 0]) := (HLo.out.keep k3 id).keep ((Kp.refl (fun _ => False) _).alloc _) id
      clear k3 HLo
      go_wp2_with fail
      obtain ⟨w4, hw4⟩ : ∃ x, x = w3.alloc (.cells #[.int .i64 0, .int .i64 0, .int .u32 0, .int .i64 0, .int .i64 0, .slice none 0 0] 41) := ⟨_, rfl⟩
      rw [← hw4] at K3 HLp ⊢
      clear hw4
      refine (zm_Find pv z w4 (HN.out _ K3.out)).mono ?_
      rintro e w5 ⟨rfl, k5⟩
      have K5 : Hid (Kp (fun _ => False) wr0 (w5.alloc (.cells #[.int .i64 0, .int .i64 0, .int .u32 0, .int .i64 0, .int .i64 0, .slice none 0 0] 41))) := (K3.out.trans k5 (fun _ _ e => e)).alloc _
      have HLq : Hid (Lv (w5.alloc (.cells #[.int .i64 0, .int .i64 0, .int .u32 0, .int .i64 0, .int .i64 0, .slice none 0 0] 41)) bo [.int .i64 0, .int .i64 0, .int .i64 0, .int .u32 0, .int .i64 0, .int .i64 0, .slice none 0 0, .int .i64 0]) := (HLp.out.keep k5 id).keep ((Kp.refl (fun _ => False) _).alloc _) id
      clear k5 HLp
      go_upto_region 7 with fail
      obtain ⟨wf, hwf⟩ : ∃ x, x = w5.alloc (.cells #[.int .i64 0, .int .i64 0, .int .u32 0, .int .i64 0, .int .i64 0, .slice none 0 0] 41) := ⟨_, rfl⟩
      rw [← hwf] at K5 HLq ⊢
      clear hwf
      have o0 : wf.cell? ⟨bo, 0, none⟩ = some (.int .i64 0) := HLq.out.cell (j := 0) rfl
      have o1 : wf.cell? ⟨bo, 1, none⟩ = some (.int .i64 0) := HLq.out.cell (j := 1) rfl
      have o2 : wf.cell? ⟨bo, 2, none⟩ = some (.int .i64 0) := HLq.out.cell (j := 2) rfl
      have o3 : wf.cell? ⟨bo, 3, none⟩ = some (.int .u32 0) := HLq.out.cell (j := 3) rfl
      have o4 : wf.cell? ⟨bo, 4, none⟩ = some (.int .i64 0) := HLq.out.cell (j := 4) rfl
      have o5 : wf.cell? ⟨bo, 5, none⟩ = some (.int .i64 0) := HLq.out.cell (j := 5) rfl
      have o6 : wf.cell? ⟨bo, 6, none⟩ = some (.slice none 0 0) := HLq.out.cell (j := 6) rfl
      have o7 : wf.cell? ⟨bo, 7, none⟩ = some (.int .i64 0) := HLq.out.cell (j := 7) rfl
      go_wp2_with fail
      refine (HSo.out _).mono ?_
      rintro e w6 ⟨rfl, k6⟩
      have K6 : Hid (Kp (fun _ => False) wr0 w6) := K5.out.trans k6 (fun _ _ e => e)
      clear k6 HLq o0 o1 o2 o3 o4 o5 o6 o7
      go_wp2_with fail
      refine (zm_Epoch pv w6 (HN.out _ K6.out)).mono ?_
      rintro e v0 ⟨rfl, k9⟩
      have Kc0 : Hid (Kp (fun _ => False) wr0 v0) := K6.out.trans k9 (fun _ _ e => e)
      clear k9
      go_wp2_with fail
      refine (zm_Slot pv v0 (HN.out _ Kc0.out)).mono ?_
      rintro e v1 ⟨rfl, k9⟩
      have Kc1 : Hid (Kp (fun _ => False) wr0 v1) := Kc0.out.trans k9 (fun _ _ e => e)
      clear k9
      go_wp2_with fail
      refine (zm_Voters pv z v1 (HN.out _ Kc1.out)).mono ?_
      rintro e v2 ⟨rfl, k9⟩
      have Kc2 : Hid (Kp (fun _ => False) wr0 v2) := Kc1.out.trans k9 (fun _ _ e => e)
      clear k9
      go_wp2_with fail
      refine (zm_Members pv v2 (HN.out _ Kc2.out)).mono ?_
      rintro e v3 ⟨rfl, k9⟩
      have Kc3 : Hid (Kp (fun _ => False) wr0 v3) := Kc2.out.trans k9 (fun _ _ e => e)
      clear k9
      go_wp2_with fail
      refine (zm_Keys pv v3 (HN.out _ Kc3.out)).mono ?_
      rintro e v4 ⟨rfl, k9⟩
      have Kc4 : Hid (Kp (fun _ => False) wr0 v4) := Kc3.out.trans k9 (fun _ _ e => e)
      clear k9
      go_wp2_with fail
      refine (zm_Moves pv v4 (HN.out _ Kc4.out)).mono ?_
      rintro e v5 ⟨rfl, k9⟩
      have Kc5 : Hid (Kp (fun _ => False) wr0 v5) := Kc4.out.trans k9 (fun _ _ e => e)
      clear k9
      go_wp2_with fail
      refine (zm_Recodes pv v5 (HN.out _ Kc5.out)).mono ?_
      rintro e v6 ⟨rfl, k9⟩
      have Kc6 : Hid (Kp (fun _ => False) wr0 v6) := Kc5.out.trans k9 (fun _ _ e => e)
      clear k9
      go_wp2_with fail
      refine (zm_Mine pv z v6 (HN.out _ Kc6.out)).mono ?_
      rintro e v7 ⟨rfl, k9⟩
      have Kc7 : Hid (Kp (fun _ => False) wr0 v7) := Kc6.out.trans k9 (fun _ _ e => e)
      clear k9
      go_wp2_with fail
      refine (zm_Failed pv z v7 (HN.out _ Kc7.out)).mono ?_
      rintro e v8 ⟨rfl, k9⟩
      have Kc8 : Hid (Kp (fun _ => False) wr0 v8) := Kc7.out.trans k9 (fun _ _ e => e)
      clear k9
      go_wp2_with fail
      refine (zm_Copy pv v8 (HN.out _ Kc8.out)).mono ?_
      rintro e v9 ⟨rfl, k9⟩
      have Kc9 : Hid (Kp (fun _ => False) wr0 v9) := Kc8.out.trans k9 (fun _ _ e => e)
      clear k9
      go_wp2_with fail
      refine (zm_Same pv pv v9 (HN.out _ Kc9.out)).mono ?_
      rintro e v10 ⟨rfl, k9⟩
      have Kc10 : Hid (Kp (fun _ => False) wr0 v10) := Kc9.out.trans k9 (fun _ _ e => e)
      clear k9
      go_wp2_with fail
      refine (zm_Code pv v10 (HN.out _ Kc10.out)).mono ?_
      rintro e v11 ⟨rfl, k9⟩
      have Kc11 : Hid (Kp (fun _ => False) wr0 v11) := Kc10.out.trans k9 (fun _ _ e => e)
      clear k9
      go_wp2
      go_roundg (2 - (k + 1))
      case rel => exact ⟨k + 1, by omega, rfl, by first | rfl | go_num, KR.out.trans Kc11.out (fun _ _ e => e)⟩
      case measure => omega
    · go_wp2_with fail
      refine (HN1.out _).mono ?_
      rintro e w1 ⟨v, rfl, hep, k1⟩
      have K1 : Hid (Kp (fun _ => False) w w1) := (HK0.out.trans KR.out (fun _ _ e => e)).trans k1 (fun _ _ e => e)
      have HEp : Hid (Ep w1 v) := hep
      clear k1 hep
      go_wp2_with fail
      refine (HSm.out v _ HEp.out).mono ?_
      rintro e w2 ⟨rfl, k2⟩
      go_wp2
      go_ret
      exact ⟨rfl, K1.out.trans k2 (fun _ _ e => e)⟩
end Go.Proofs.YtfeecopjacpjnaaGreat
