/- Texts of this proof, joined: Qh, Pb3. -/
import Derived.Test.YtoepemgflbmlcaaDoorMgAV
import Derived.Test.YtoepemgflbmlcaaDoorMgBH
import Derived.Test.YtoepemgflbmlcaaDoorMgBM
/- The same messages are found the same. -/
namespace Go.Proofs.YtoepemgflbmlcaaDoor
set_option linter.unusedVariables false
open Go.RowKit Go.Deep Go.Maps

set_option maxRecDepth 100000 in
set_option maxHeartbeats 1600000 in
theorem same_msg (Z1 Z2 : Nat → Prop) (μ : Ms) (v1 v2 : Value) (w : World) (h1 : Mr w Z1 μ v1) (h2 : Mr w Z2 μ v2) :
    Calls Tryd.prog 18 #[v1, v2] w fun e w' => e = .returned (.bool true) ∧ Kp (fun _ => False) w w' := by
  obtain ⟨p, cp, pv, cv, l, pb, cb, rfl, a1, a2, a3, a4, a5, a6, a7, a8, a9⟩ := h1
  obtain ⟨q, cq, qv, dv, l', qb, db, rfl, b1, b2, b3, b4, b5, b6, b7, b8, b9⟩ := h2
  obtain ⟨s, nodes, votes, bytes⟩ := μ
  simp only at a1 a2 a3 a4 a5 a6 a7 a8 a9 b1 b2 b3 b4 b5 b6 b7 b8 b9
  have HC : Hid (∀ u, Kp (fun _ => False) w u → Calls _ _ _ u _) := fun u k => same_cmd s.c Z1 Z2 p q cp cq nodes u (a1.keep k (fun _ _ => id)) (b1.keep k (fun _ _ => id)) a2
  have HV : Hid (∀ u, Kp (fun _ => False) w u → Calls _ _ _ u _) := fun u k => same_votes Z1 Z2 pv qv cv dv l l' u (a3.trans b3.symm) (a4.keep k (fun _ _ => id)) (b4.keep k (fun _ _ => id)) (a5.keep k (fun _ _ => id)) (b5.keep k (fun _ _ => id)) a6
  have HB : Hid (∀ u, Kp (fun _ => False) w u → Calls _ _ _ u _) := fun u k => bytes_same pb qb bytes.length bytes.length cb db bytes u (fl_rb (a7.keep k (fun _ _ => id)) a8) (fl_rb (b7.keep k (fun _ _ => id)) b8)
  show Calls Tryd.prog 18 #[.agg (msgA s (.slice p nodes.length cp) (.slice pv l.length cv) (.slice pb bytes.length cb)), .agg (msgA s (.slice q nodes.length cq) (.slice qv l'.length dv) (.slice qb bytes.length db))] w _
  obtain ⟨n1, hn1⟩ : ∃ x, x = nodes.length := ⟨_, rfl⟩
  obtain ⟨n2, hn2⟩ : ∃ x, x = l.length := ⟨_, rfl⟩
  obtain ⟨n4, hn4⟩ : ∃ x, x = l'.length := ⟨_, rfl⟩
  obtain ⟨n3, hn3⟩ : ∃ x, x = bytes.length := ⟨_, rfl⟩
  rw [← hn1] at HC
  rw [← hn2, ← hn4] at HV
  rw [← hn3] at HB
  rw [← hn1, ← hn2, ← hn3, ← hn4]
  clear a1 a2 a3 a4 a5 a6 a7 a8 a9 b1 b2 b3 b4 b5 b6 b7 b8 b9 hn1 hn2 hn3 hn4
  have HL1 : Hid (Lv ((w.alloc (.cells (msgA s (.slice p n1 cp) (.slice pv n2 cv) (.slice pb n3 cb)) 40)).alloc (.cells (msgA s (.slice q n1 cq) (.slice qv n4 dv) (.slice qb n3 db)) 40)) w.heap.size (msgA s (.slice p n1 cp) (.slice pv n2 cv) (.slice pb n3 cb)).toList) := (Lv.new w _ _).keep ((Kp.refl (fun _ => False) _).alloc _) id
  have HL2 : Hid (Lv ((w.alloc (.cells (msgA s (.slice p n1 cp) (.slice pv n2 cv) (.slice pb n3 cb)) 40)).alloc (.cells (msgA s (.slice q n1 cq) (.slice qv n4 dv) (.slice qb n3 db)) 40)) (w.heap.size + 1) (msgA s (.slice q n1 cq) (.slice qv n4 dv) (.slice qb n3 db)).toList) := by
    have z1 : (w.alloc (.cells (msgA s (.slice p n1 cp) (.slice pv n2 cv) (.slice pb n3 cb)) 40)).heap.size = w.heap.size + 1 := by simp
    rw [← z1]; exact Lv.new _ _ _
  go_enter Tryd.func18, Tryd.ntmps18
  go_wp2_with (first
    | (go_at_call 12; refine (HC.out _ (((Kp.refl _ _).alloc _).alloc _)).mono ?_; rintro e u1 ⟨rfl, k1⟩; have kw1 := (((Kp.refl (fun _ => False) w).alloc _).alloc _).trans k1 (fun _ _ e => e); have HLa : Hid (Lv u1 w.heap.size _) := HL1.out.keep k1 id; have HLb : Hid (Lv u1 (w.heap.size + 1) _) := HL2.out.keep k1 id; have ca : u1.cell? ⟨w.heap.size, 22, none⟩ = some (.slice pv n2 cv) := HLa.out.cell (j := 22) rfl; have cb' : u1.cell? ⟨w.heap.size + 1, 22, none⟩ = some (.slice qv n4 dv) := HLb.out.cell (j := 22) rfl; clear HL1 HL2 k1)
    | (go_at_call 47; refine (HV.out _ kw1).mono ?_; rintro e u2 ⟨rfl, k2⟩; have kw2 := kw1.trans k2 (fun _ _ e => e); have cc : u2.cell? ⟨w.heap.size, 23, none⟩ = some (.slice pb n3 cb) := (HLa.out.keep k2 id).cell (j := 23) rfl; have cd : u2.cell? ⟨w.heap.size + 1, 23, none⟩ = some (.slice qb n3 db) := (HLb.out.keep k2 id).cell (j := 23) rfl; clear HLa HLb ca cb' k2)
    | (go_at_call 11; refine (HB.out _ kw2).mono ?_; rintro e u3 ⟨rfl, rfl⟩))
  go_ret
  exact ⟨rfl, kw2⟩
end Go.Proofs.YtoepemgflbmlcaaDoor

/- The document's Msg, of any message; what writing and reading a message give, plain. -/
namespace Go.Proofs.YtoepemgflbmlcaaDoor
set_option linter.unusedVariables false
set_option linter.unusedSimpArgs false
open Go.RowKit Go.Deep

set_option maxRecDepth 100000 in
set_option maxHeartbeats 1600000 in
theorem xmsgw_no (xa : Array Value) (w : World) (hxl : xa.toList.length = 24) (hM : ∀ u, Kp (fun _ => False) w u → Calls Tryd.prog 22 #[.agg xa] u fun e w' => e = .returned (.bool false) ∧ Kp (fun _ => False) u w') :
    Calls Tryd.prog 15 #[.agg xa] w fun e w' => e = .returned (.tuple #[.slice none 0 0, .int .i64 1]) ∧ Kp (fun _ => False) w w' := by
  have HK0 : Hid (Kp (fun _ => False) w (w.alloc (.cells xa 40))) := (Kp.refl _ _).alloc _
  have HL0 : Hid (Lv (w.alloc (.cells xa 40)) w.heap.size xa.toList) := Lv.new w _ _
  have HXl : Hid (xa.toList.length = 24) := hxl
  have HM : Hid (∀ u, Kp (fun _ => False) w u → Calls Tryd.prog 22 #[.agg xa] u fun e w' => e = .returned (.bool false) ∧ Kp (fun _ => False) u w') := hM
  clear hxl hM
  obtain ⟨dM, hdM⟩ := dsMsg
  go_enter Tryd.func15, Tryd.ntmps15
  go_upto_region 1 with fail
  obtain ⟨u0, hu0⟩ : ∃ x, x = w.alloc (.cells xa 40) := ⟨_, rfl⟩
  rw [← hu0] at HK0 HL0 ⊢
  clear hu0
  go_wp2_with (refine wpList_load_all rfl 40 _ rfl 24 w.heap.size xa.toList rfl HL0.out ⟨dM, hdM⟩ szMsg HXl.out ?_; rw [Array.toArray_toList])
  refine (HM.out u0 HK0.out).mono ?_
  rintro e9 w1 ⟨rfl, k1⟩
  have HK1 : Hid (Kp (fun _ => False) w w1) := HK0.out.trans k1 (fun _ _ e => e)
  clear k1
  go_wp2_with fail
  go_ret2
  exact ⟨rfl, HK1.out⟩

theorem xmsgw_ok (Z : Nat → Prop) (μ : Ms) (v : Value) (w : World) (h : Mr w Z μ v) (hZ : ∀ b, Z b → b < w.heap.size) (hg : goodM μ) :
    Calls Tryd.prog 15 #[v] w fun e w' => MsgRes μ w e w' ∧ Kp (fun _ => False) w w' := by
  have hMay := fun u (k : Kp (fun _ => False) w u) => xmayMsg_ok Z μ v u (h.keep k (fun _ _ => id)) hg
  cases hm : mayM μ with
  | false =>
    rw [hm] at hMay
    obtain ⟨p, cp, pv, cv, l, pb, cb, rfl, _⟩ := h
    refine (xmsgw_no _ w rfl hMay).mono ?_
    rintro e w' ⟨rfl, k⟩
    refine ⟨?_, k⟩
    unfold MsgRes
    rw [hm]
    rfl
  | true =>
    rw [hm] at hMay
    have hF := mayM_full hm
    obtain ⟨p, cp, pv, cv, l, pb, cb, rfl, h1, h2, h3, h4, h5, h6, h7, h8, h9⟩ := h
    obtain ⟨s, nodes, votes, bytes⟩ := μ
    obtain ⟨k0, k1, k2, k3, k4, k5, k6, k7, k8, ok, c⟩ := s
    have hn := hF.n
    have hfv := hF.v
    have hfc := hF.c
    have hf9 := hF.v9
    have hfb := hF.b9
    simp only at h1 h2 h3 h4 h5 h6 h7 h8 h9 hn hfv hfc hf9 hfb hMay
    subst h3
    simp only [List.mem_cons, List.not_mem_nil, or_false, forall_eq_or_imp, forall_eq] at hn
    obtain ⟨m0, m1, m2, m3, m4, m5, m6, m7, m8⟩ := hn
    obtain ⟨k0, rfl⟩ := nat_of m0.1
    obtain ⟨k1, rfl⟩ := nat_of m1.1
    obtain ⟨k2, rfl⟩ := nat_of m2.1
    obtain ⟨k3, rfl⟩ := nat_of m3.1
    obtain ⟨k4, rfl⟩ := nat_of m4.1
    obtain ⟨k5, rfl⟩ := nat_of m5.1
    obtain ⟨k6, rfl⟩ := nat_of m6.1
    obtain ⟨k7, rfl⟩ := nat_of m7.1
    obtain ⟨k8, rfl⟩ := nat_of m8.1
    refine (xmsgw_yes k0 k1 k2 k3 k4 k5 k6 k7 k8 ok c Z p pv pb nodes.length cp l.length cv bytes.length cb nodes l bytes w h1 rfl h4 h5 rfl (fl_rb h7 h8) (fun a ha hp => ?_) hZ (fun x hx => ?_) hfc hg.1 (fun x hx => ⟨hfv x.1 (List.mem_map.2 ⟨x, hx, rfl⟩), hg.2 x.1 (List.mem_map.2 ⟨x, hx, rfl⟩)⟩) (by rw [List.length_map] at hf9; exact hf9) hfb hMay).mono ?_
    · obtain ⟨b, o, e, hz, _⟩ := h7 0 _ (vl_get hp)
      rw [ha] at e
      injection e with e
      subst e
      exact hz
    · simp only [List.mem_cons, List.not_mem_nil, or_false] at hx
      omega
    · rintro e w' ⟨h, k⟩
      refine ⟨?_, k⟩
      unfold MsgRes
      rw [hm]
      exact h

theorem truthB_byte (b : Bool) : ∀ x ∈ truthB b, x < 256 := fun x hx => by
  unfold truthB at hx
  rw [List.mem_singleton] at hx
  cases b <;> simp at hx <;> omega
theorem msgB_byte {μ : Ms} (h : mayM μ = true) (hg : goodM μ) (hb : ∀ x ∈ μ.bytes, x < 256) : ∀ x ∈ msgB (mpOf μ), x < 256 := by
  have hF := mayM_full h
  have hn := hF.n
  simp only [List.mem_cons, List.not_mem_nil, or_false, forall_eq_or_imp, forall_eq] at hn
  intro x hx
  unfold msgB at hx
  rcases List.mem_append.1 hx with hx | hx
  · refine numsB_byte (fun n hn2 => ?_) x hx
    simp only [mpOf, List.mem_cons, List.not_mem_nil, or_false] at hn2
    omega
  rcases List.mem_append.1 hx with hx | hx
  · exact truthB_byte _ x hx
  rcases List.mem_append.1 hx with hx | hx
  · exact cmdB_byte hF.c ⟨hg.1.1, hg.1.2.1⟩ x hx
  rcases List.mem_append.1 hx with hx | hx
  · refine numB_byte ?_ x hx
    show (μ.votes.map vpOf).length < _
    rw [List.length_map]
    have := hF.v9
    omega
  rcases List.mem_append.1 hx with hx | hx
  · unfold votesB at hx
    obtain ⟨y, hy, hxy⟩ := List.mem_flatMap.1 hx
    obtain ⟨v, hv, rfl⟩ := List.mem_map.1 (show y ∈ μ.votes.map vpOf from hy)
    obtain ⟨p1, p2, p3⟩ := mayVo_parts (hF.v v hv)
    unfold voteB at hxy
    rcases List.mem_append.1 hxy with hxy | hxy
    · refine numsB_byte (fun n hn2 => ?_) x hxy
      simp only [vpOf, List.mem_cons, List.not_mem_nil, or_false] at hn2
      omega
    · exact cmdB_byte p3 ⟨(hg.2 v hv).1, (hg.2 v hv).2.1⟩ x hxy
  rcases List.mem_append.1 hx with hx | hx
  · refine numB_byte ?_ x hx
    show μ.bytes.length < _
    have := hF.b9
    omega
  · exact hb x hx
/-- a message's bytes and the error, plain -/
def msgR (μ : Ms) : List Nat × Int := if mayM μ = true then (msgB (mpOf μ), 0) else ([], 1)
theorem MsgRes.norm {μ : Ms} {w : World} {e : Ending} {w' : World} (h : MsgRes μ w e w') (hg : goodM μ) (hb : ∀ x ∈ μ.bytes, x < 256) : ∃ q m cap, e = .returned (.tuple #[.slice q m cap, .int .i64 (msgR μ).2]) ∧ Rb w' q m (msgR μ).1 ∧ m ≤ cap := by
  unfold MsgRes at h
  unfold msgR
  by_cases hm : mayM μ = true
  · rw [if_pos hm] at h ⊢
    obtain ⟨v, he, ho⟩ := h
    obtain ⟨q, cap, hv, hmc, hr, _⟩ := ho.rb (msgB_byte hm hg hb)
    exact ⟨q, _, cap, by rw [he, hv], hr, hmc⟩
  · rw [if_neg hm] at h ⊢
    exact ⟨none, 0, 0, h, Rb.nil _ _, Nat.le_refl _⟩
def ms0 : Ms := ⟨⟨0, 0, 0, 0, 0, 0, 0, 0, 0, false, ⟨0, 0, ⟨#[]⟩, 0, 0, 0, 0, 0, 0, 0, 0⟩⟩, [], [], []⟩
theorem mr_zero (w : World) (Z : Nat → Prop) : Mr w Z ms0 (.agg zeroM) :=
  ⟨none, 0, none, 0, [], none, 0, rfl, fun j u hu => (by cases hu), by simp [ms0], rfl, fun j u hu => (by cases hu), fun x hx => (by cases hx), by simp, fun j u hu => (by cases hu), fun x hx => (by cases hx), by simp [ms0]⟩
/-- the message of bytes and the error, plain -/
def mtR (xs : List Nat) : Ms × Int := match okM xs with
  | some m => (msOf m, 0)
  | none => (ms0, 51)
theorem MtRes.norm {xs : List Nat} {w : World} {e : Ending} {w' : World} (h : MtRes xs w e w') : ∃ xa : Array Value, e = .returned (.tuple #[.agg xa, .int .i64 (mtR xs).2]) ∧ Mr w' (fun _ => True) (mtR xs).1 (.agg xa) ∧ xa.toList.length = 24 ∧ xa.toList.toArray.all (·.oneCell') = true := by
  unfold MtRes at h
  unfold mtR
  cases hm : okM xs with
  | none =>
    rw [hm] at h
    exact ⟨zeroM, h, mr_zero _ _, rfl, zeroM_one⟩
  | some m =>
    rw [hm] at h
    obtain ⟨v, he, hr⟩ := h
    obtain ⟨xa, rfl, hl, h1⟩ := hr.form
    exact ⟨xa, he, hr.mono (fun _ _ => trivial), hl, h1⟩
end Go.Proofs.YtoepemgflbmlcaaDoor
