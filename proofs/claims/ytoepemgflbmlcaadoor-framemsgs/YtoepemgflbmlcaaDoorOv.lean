/- frame.Msg. -/
import Derived.Test.YtoepemgflbmlcaaDoorOu
namespace Go.Proofs.YtoepemgflbmlcaaDoor
set_option linter.unusedVariables false
set_option linter.unusedSimpArgs false
open Go.RowKit Go.Deep

/-- what a message that may be is like -/
structure MayMF (μ : Ms) : Prop where
  v9 : μ.votes.length ≤ 1000
  b9 : μ.bytes.length ≤ 2000
  k : 1 ≤ μ.s.kind ∧ μ.s.kind ≤ 15
  n : ∀ z ∈ [μ.s.kind, μ.s.src, μ.s.dst, μ.s.ballot, μ.s.slot, μ.s.blob, μ.s.index, μ.s.epoch, μ.s.id], 0 ≤ z ∧ z ≤ 1152921504606846976
  c : mayC μ.s.c μ.nodes = true
  v : ∀ v ∈ μ.votes, mayVo v = true
theorem mayM_full {μ : Ms} (h : mayM μ = true) : MayMF μ := by
  unfold mayM at h
  simp only [Bool.and_eq_true, decide_eq_true_eq] at h
  obtain ⟨h1, h2, h3, h4, h5, h6, h7, h8⟩ := h
  have m5 := upTo_mem h5
  have m6 := upTo_mem h6
  simp only [List.mem_cons, List.not_mem_nil, or_false, forall_eq_or_imp, forall_eq] at m5 m6
  refine ⟨h1, h2, ⟨h3, h4⟩, fun z hz => ?_, h7, fun v hv => List.all_eq_true.1 h8 v hv⟩
  simp only [List.mem_cons, List.not_mem_nil, or_false] at hz
  rcases hz with rfl | rfl | rfl | rfl | rfl | rfl | rfl | rfl | rfl <;> omega
theorem appM_ok (Z : Nat → Prop) (μ : Ms) (v : Value) (w : World) (h : Mr w Z μ v) (hZ : ∀ b, Z b → b < w.heap.size) (hg : goodM μ) (hm : mayM μ = true) :
    Calls Tryd.prog 40 #[.slice none 0 0, v] w fun e w' => ∃ v', e = .returned v' ∧ Ap w w' w.heap.size (.slice none 0 0) v' (msgB (mpOf μ)) := by
  obtain ⟨p, cp, pv, cv, l, pb, cb, rfl, h1, h2, h3, h4, h5, h6, h7, h8, h9⟩ := h
  have hF := mayM_full hm
  obtain ⟨s, nodes, votes, bytes⟩ := μ
  obtain ⟨k0, k1, k2, k3, k4, k5, k6, k7, k8, ok, c⟩ := s
  have hn := hF.n
  have hfv := hF.v
  have hfc := hF.c
  have hf9 := hF.v9
  have hfb := hF.b9
  simp only at h1 h2 h3 h4 h5 h6 h7 h8 h9 hn hfv hfc hf9 hfb
  subst h3
  simp only [List.mem_cons, List.not_mem_nil, or_false, forall_eq_or_imp, forall_eq] at hn
  obtain ⟨m0, m1, m2, m3, m4, m5, m6, m7, m8⟩ := hn
  obtain ⟨k0, rfl⟩ := nat_of m0.1
  obtain ⟨k1, rfl⟩ := nat_of m1.1
  obtain ⟨k2, rfl⟩ := nat_of m2.1
  obtain ⟨k3, rfl⟩ := nat_of m3.1
  obtain ⟨k4, rfl⟩ := nat_of m4.1
  obtain ⟨k5, rfl⟩ := nat_of m5.1
  obtain ⟨k6, rfl⟩ := nat_of m6.1
  obtain ⟨k7, rfl⟩ := nat_of m7.1
  obtain ⟨k8, rfl⟩ := nat_of m8.1
  refine (appM_nat w.heap.size (.slice none 0 0) [] k0 k1 k2 k3 k4 k5 k6 k7 k8 ok c Z p pv pb nodes.length cp l.length cv bytes.length cb nodes l bytes w (World.ownsRow_nil _ _ _ _) (Nat.le_refl _) (Nat.zero_le _) h1 rfl h4 h5 rfl (fl_rb h7 h8) (fun a ha hp => ?_) (fun b hb => ⟨by simp [Value.ownBlock], hZ b hb⟩) (fun x hx => ?_) hfc hg.1 (fun x hx => ⟨hfv x.1 (List.mem_map.2 ⟨x, hx, rfl⟩), hg.2 x.1 (List.mem_map.2 ⟨x, hx, rfl⟩)⟩) (by rw [List.length_map] at hf9; exact hf9) hfb).mono ?_
  · obtain ⟨b, o, e, hz, _⟩ := h7 0 _ (vl_get hp)
    rw [ha] at e
    injection e with e
    subst e
    exact hz
  · simp only [List.mem_cons, List.not_mem_nil, or_false] at hx
    omega
  · rintro e w' ⟨v', rfl, ha⟩
    exact ⟨v', rfl, ha⟩
/-- what Msg answers -/
def MsgRes (μ : Ms) (w : World) (e : Ending) (w' : World) : Prop :=
  if mayM μ = true then ∃ v, e = .returned (.tuple #[v, .int .i64 0]) ∧ Ow w' w.heap.size v (msgB (mpOf μ)) else e = .returned (.tuple #[.slice none 0 0, .int .i64 1])

set_option maxRecDepth 100000 in
set_option maxHeartbeats 1600000 in
theorem fmsg_ok (Z : Nat → Prop) (μ : Ms) (v : Value) (w : World) (h : Mr w Z μ v) (hZ : ∀ b, Z b → b < w.heap.size) (hg : goodM μ) :
    Calls Tryd.prog 14 #[v] w fun e w' => MsgRes μ w e w' ∧ Kp (fun _ => False) w w' := by
  have HM : Hid (∀ u, Kp (fun _ => False) w u → Calls Tryd.prog 39 #[v] u fun e w' => e = .returned (.bool (mayM μ)) ∧ Kp (fun _ => False) u w') := fun u k => mayMsg_ok Z μ v u (h.keep k (fun _ _ => id)) hg
  have HA : Hid (mayM μ = true → ∀ u, Kp (fun _ => False) w u → Calls Tryd.prog 40 #[.slice none 0 0, v] u fun e w' => ∃ v', e = .returned v' ∧ Ap u w' u.heap.size (.slice none 0 0) v' (msgB (mpOf μ))) := fun hm u k => appM_ok Z μ v u (h.keep k (fun _ _ => id)) (fun b hb => Nat.lt_of_lt_of_le (hZ b hb) k.size) hg hm
  have HX : Hid (∃ xa : Array Value, v = .agg xa ∧ xa.toList.length = 24) := by
    obtain ⟨p, cp, pv, cv, l, pb, cb, rfl, _⟩ := h
    exact ⟨_, rfl, rfl⟩
  obtain ⟨xa, hv, hxl⟩ := HX.out
  subst hv
  have HXl : Hid (xa.toList.length = 24) := hxl
  have HK0 : Hid (Kp (fun _ => False) w (w.alloc (.cells xa 40))) := (Kp.refl _ _).alloc _
  have HL0 : Hid (Lv (w.alloc (.cells xa 40)) w.heap.size xa.toList) := Lv.new w _ _
  obtain ⟨B, hB⟩ : ∃ b, b = mayM μ := ⟨_, rfl⟩
  have HB : Hid (B = mayM μ) := hB
  rw [← hB] at HM HA
  clear h hZ hg hB hxl HX
  obtain ⟨dM, hdM⟩ := dsMsg
  go_enter Tryd.func14, Tryd.ntmps14
  go_upto_region 1 with fail
  obtain ⟨u0, hu0⟩ : ∃ x, x = w.alloc (.cells xa 40) := ⟨_, rfl⟩
  rw [← hu0] at HK0 HL0 ⊢
  clear hu0
  go_wp2_with (refine wpList_load_all rfl 40 _ rfl 24 w.heap.size xa.toList rfl HL0.out ⟨dM, hdM⟩ szMsg HXl.out ?_; rw [Array.toArray_toList])
  refine (HM.out u0 HK0.out).mono ?_
  rintro e9 w1 ⟨rfl, k1⟩
  have HK1 : Hid (Kp (fun _ => False) w w1) := HK0.out.trans k1 (fun _ _ e => e)
  have HL1 : Hid (Lv w1 w.heap.size xa.toList) := HL0.out.keep k1 id
  clear k1
  cases B with
  | false =>
    go_wp2_with fail
    go_ret2
    refine ⟨?_, HK1.out⟩
    unfold MsgRes
    rw [← HB.out]
    rfl
  | true =>
    go_wp2_with (refine wpList_load_all rfl 40 _ rfl 24 w.heap.size xa.toList rfl HL1.out ⟨dM, hdM⟩ szMsg HXl.out ?_; rw [Array.toArray_toList])
    refine (HA.out (by trivial) w1 HK1.out).mono ?_
    rintro e9 w2 ⟨v2, rfl, h2⟩
    have HA2 : Hid (Ap w1 w2 w1.heap.size (.slice none 0 0) v2 (msgB (mpOf μ))) := h2
    clear h2
    go_wp2_with fail
    go_ret2
    refine ⟨?_, HK1.out.trans HA2.out.k (fun b _ e => by simp [Value.ownBlock] at e)⟩
    unfold MsgRes
    rw [← HB.out]
    exact ⟨v2, rfl, ownsRow_base HA2.out.o HK1.out.size⟩
end Go.Proofs.YtoepemgflbmlcaaDoor
