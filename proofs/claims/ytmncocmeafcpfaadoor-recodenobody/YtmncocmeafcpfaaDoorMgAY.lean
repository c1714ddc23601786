/- Texts of this proof, joined: Yf, Yl, Lh, Li. -/
import Derived.Test.YtmncocmeafcpfaaDoorMgAT
import Derived.Deep.RegionHeld3
import Derived.Test.YtmncocmeafcpfaaDoorMgAX
import Derived.Test.YtmncocmeafcpfaaDoorMgAN
import Derived.Test.YtmncocmeafcpfaaDoorRows
import Derived.ProofKit
import Derived.LaidMore
import Derived.OpenShut
import Derived.Stop.Joined
import Derived.Test.YtmncocmeafcpfaaDoorMgAS
import Derived.Test.YtmncocmeafcpfaaDoorMgAK
/- Movers: Asks of one whose shard is durable. -/
namespace Go.Proofs.YtmncocmeafcpfaaDoor
set_option linter.unusedVariables false
set_option linter.unusedSimpArgs false
open Go.RowKit Go.Deep


section
variable {w : World} {m : Nat} {fp sv : Value} {fe : Int}

set_option maxRecDepth 100000 in
set_option maxHeartbeats 3200000 in
theorem masks_fence (ep : Int) (h : Lv w m (movA 3 9 0 0 3 fp sv fe)) : Calls Tryd.prog 24 #[.pointer (some ⟨m, 0, none⟩), .int .i64 ep] w fun e w' => ∃ g, e = .returned (.slice (some ⟨g, 0, none⟩) 1 1) ∧ Kp (fun _ => False) w w' ∧ Lv w' g (msgA ⟨14, 0, 3, 0, 0, 9, 0, fe, 0, false, ⟨0, 0, ⟨#[]⟩, 0, 0, 0, 0, 0, 0, 0, 0⟩⟩ (.slice none 0 0) (.slice none 0 0) (.slice none 0 0)).toList := by
  have m0 := h.cell (j := 0) rfl
  have m1 := h.cell (j := 1) rfl
  have m2 := h.cell (j := 2) rfl
  have m3 := h.cell (j := 3) rfl
  have m4 := h.cell (j := 4) rfl
  have m7 := h.cell (j := 7) rfl
  have H1 : Hid (Calls _ _ _ _ _) := mphase_ok m 3 w m0
  have HSw : Hid (∀ z, Kp (fun _ => False) w z → z.cell? ⟨m, 1, none⟩ = some (.int .i64 9) ∧ z.cell? ⟨m, 2, none⟩ = some (.int .i64 0) ∧ z.cell? ⟨m, 3, none⟩ = some (.int .i64 0) ∧ z.cell? ⟨m, 4, none⟩ = some (.int .i64 3) ∧ z.cell? ⟨m, 7, none⟩ = some (.int .i64 fe)) := fun z k => ⟨k.cellv m1 id, k.cellv m2 id, k.cellv m3 id, k.cellv m4 id, k.cellv m7 id⟩
  clear h
  go_enter Tryd.func24, Tryd.ntmps24
  go_wp2_with (go_at_call 15; refine H1.out.mono ?_; rintro e w1 ⟨rfl, hw1⟩; subst hw1)
  have kd : Kp (fun _ => False) w1 w1.drew := (Kp.refl _ _).drew
  go_region_held3 (fun z => z.cell? ⟨m, 1, none⟩ = some (.int .i64 9) ∧ z.cell? ⟨m, 2, none⟩ = some (.int .i64 0) ∧ z.cell? ⟨m, 3, none⟩ = some (.int .i64 0) ∧ z.cell? ⟨m, 4, none⟩ = some (.int .i64 3) ∧ z.cell? ⟨m, 7, none⟩ = some (.int .i64 fe))
    (first
      | exact HSw.out _ kd
      | exact HSw.out _ (kd.alloc _))
    (fail)
  go_wp2
  go_ret
  exact ⟨_, rfl, (Kp.refl _ _).drew.alloc _, (Lv.new _ _ _).keep ((Kp.refl (fun _ => False) _).drew) id⟩

end
end Go.Proofs.YtmncocmeafcpfaaDoor

/- The walk of the law MoverFences: a mover whose shard is durable asks to fence the old holder, until it hears that it is, or has failed. -/
namespace Go.Proofs.YtmncocmeafcpfaaDoor
set_option linter.unusedVariables false
set_option linter.unusedSimpArgs false
open Go.RowKit Go.Deep

theorem mdE (k n : Int) (hk : 0 < k) (hk2 : k ≤ 4611686018427387904) : ∃ m : Int, wrap64 ((IntKind.u64.wrap n).tmod k) = m ∧ 0 ≤ m ∧ m < k := by
  have h0 : 0 ≤ IntKind.u64.wrap n := by rw [IntKind.wrap_u64]; omega
  rw [Int.tmod_eq_emod_of_nonneg h0]
  have h1 := Int.emod_nonneg (IntKind.u64.wrap n) (by omega : k ≠ 0)
  have h2 := Int.emod_lt_of_pos (IntKind.u64.wrap n) hk
  refine ⟨IntKind.u64.wrap n % k, ?_, h1, h2⟩
  unfold wrap64
  generalize IntKind.u64.wrap n % k = q at h1 h2
  omega

section
variable {w : World} {f q oq cq g : Nat}
set_option maxRecDepth 100000 in
set_option maxHeartbeats 1600000 in
theorem mon_fetch {m base : Nat} (pb : Option Addr) (c : Nat) (xs : List Nat) (hM : Mn w base m f q oq cq g) (hx : Rb w pb 8 xs) : Calls Tryd.prog 16 #[.pointer (some ⟨m, 0, none⟩), .agg (msgF 13 3 9 0 true (.slice pb 8 c))] w fun e w' => ∃ ps cs, e = .returned (.bool true) ∧ Kp (fun b => b = m ∨ b = f ∨ b = g) w w' ∧ Ow w' w.heap.size (.slice ps 8 cs) xs ∧ Lv w' m (movA 2 9 0 0 3 (.pointer none) (.slice ps 8 cs) 0) := by
  have k0 : Kp (fun _ => False) w (w.alloc (.cells (msgF 13 3 9 0 true (.slice pb 8 c)) 45)) := (Kp.refl _ _).alloc _
  have HX : Hid (Lv (w.alloc (.cells (msgF 13 3 9 0 true (.slice pb 8 c)) 45)) w.heap.size (msgF 13 3 9 0 true (.slice pb 8 c)).toList) := Lv.new w _ _
  have hM' : Mn (w.alloc (.cells (msgF 13 3 9 0 true (.slice pb 8 c)) 45)) base m f q oq cq g := ⟨hM.lm.keep k0 id, hM.lf.keep k0 id, hM.lg.keep k0 id, k0.cellv hM.lq id, hM.fresh, hM.apart⟩
  have H1 : Hid (Calls _ _ _ _ _) := mphase_ok m 1 _ (hM'.lm.cell (j := 0) rfl)
  have H2 : Hid (Calls _ _ _ _ _) := fetched_ok pb c xs hM' (hx.keep0 k0)
  clear hM hM' hx
  go_enter Tryd.func16, Tryd.ntmps16
  go_wp2_with (first | (refine wpList_load_all rfl 45 _ rfl 24 w.heap.size (msgF 13 3 9 0 true (.slice pb 8 c)).toList rfl HX.out dsMsg szMsg rfl ?_) | (go_at_call 15; refine H1.out.mono ?_; rintro e w1 ⟨rfl, hw1⟩; subst hw1) | (go_at_call 50; refine H2.out.mono ?_; rintro e w2 ⟨ps, cs, rfl, k2, o2, l2⟩))
  go_ret
  exact ⟨ps, cs, rfl, (k0.mono (fun _ _ e => e.elim)).trans k2 (fun _ _ e => e), ownsRow_base o2 (by simp), l2⟩
end

theorem sl_firstL (p : Option Addr) (n c r : Nat) (hr : r ≤ c) (w : World) :
    (Instr.slice 22 (.slice p n c) none (some (.int .i64 (r : Int))) none).run Tryd.prog w = .ok (.slice p r c) w := by
  obtain ⟨i, hi, hz⟩ := Option.map_eq_some_iff.1 info5
  simp only [Prod.mk.injEq] at hz
  obtain ⟨hz, hs, hb⟩ := hz
  have h2 : (0 : Int) ≤ r ∧ (r : Int) ≤ (c : Int) := by omega
  simp [Instr.slice, Instr.sliceBounds, Instr.sliceBound, asIntOf, run_underlying Tryd.underlying22, sizeOf, typeInfo, hi, hr]
  cases p <;> simp [Addr.add]

set_option maxRecDepth 100000 in
set_option maxHeartbeats 3200000 in
theorem moverFences_walk (ep : Int) (p : Option Addr) (n c : Nat) (xs : List Nat) (skip : Bool) (w : World) (_h0 : (Lit.int .i64 ep).wf = true) (h : Rb w p n xs) (hc : n ≤ c) (hn : Hid (n ≤ 140737488355328)) :
    Calls Tryd.prog 4 #[.int .i64 ep, .slice p n c, .bool skip] w fun e w' => e = .returned (.bool true) ∧ Kp (fun _ => False) w w' := by
  clear _h0
  obtain ⟨E, hE, hE0, hE1⟩ := mdE 1000 ep (by omega) (by omega)
  obtain ⟨r, hr⟩ : ∃ r, r = min n 8 := ⟨_, rfl⟩
  have hr8 : r ≤ 8 := by omega
  have hrn : r ≤ n := by omega
  have hmin : min (n : Int) 8 = (r : Int) := by omega
  have hsl := fun w => sl_firstL p n c r (by omega) w
  have h8r : (8 : Int) - (r : Int) = ((8 - r : Nat) : Int) := by omega
  have hw8 : wrap64 ((8 - r : Nat) : Int) = ((8 - r : Nat) : Int) := by unfold wrap64; omega
  have hw8b : wrap64 ((8 : Int) - (r : Int)) = ((8 - r : Nat) : Int) := by rw [h8r, hw8]
  have hwE : wrap64 (E + 1) = E + 1 := by unfold wrap64; omega
  have hx : Rb w p r (xs.take r) := by
    refine ⟨by rw [List.length_take, h.len]; omega, fun x hx => h.byte x (List.mem_of_mem_take hx), fun j hj => ?_⟩
    obtain ⟨b, o, e1, e2⟩ := h.cell j (by omega)
    refine ⟨b, o, e1, ?_⟩
    rw [e2, List.getD_eq_getElem?_getD, List.getD_eq_getElem?_getD, List.getElem?_take_of_lt hj]
  have HXL : Hid ((xs.take r).length = r) := hx.len
  obtain ⟨ys, hys⟩ : ∃ ys, ys = xs.take r ++ nou (8 - r) := ⟨_, rfl⟩
  have HY : Hid (ys = xs.take r ++ nou (8 - r) ∧ ys.length = 8 ∧ ∀ x ∈ ys, x < 256) := by
    refine ⟨hys, by rw [hys, List.length_append, nou_len, hx.len]; omega, fun x hxx => ?_⟩
    rw [hys, List.mem_append] at hxx
    rcases hxx with e | e
    · exact hx.byte x e
    · have : x = 0 := by simpa [nou] using (List.mem_replicate.1 e).2
      omega
  have HV : Hid (∀ (v : Value) (z : World) (b : Nat), Ow z b v (xs.take r ++ nou (8 - r)) → ∃ p3 c3, v = .slice p3 8 c3 ∧ Rb z p3 8 ys ∧ (∀ a, p3 = some a → b ≤ a.block ∧ v.ownBlock = some a.block)) := fun v z b o => by
    rw [← hys] at o
    obtain ⟨p3, c3, e, _, r3, h3⟩ := o.rb HY.out.2.2
    rw [HY.out.2.1] at e r3
    exact ⟨p3, c3, e, r3, h3⟩
  have HV2 : Hid (∀ (z : World) (b : Nat) (ps : Option Addr) (cs : Nat), Ow z b (.slice ps 8 cs) ys → Rb z ps 8 ys) := fun z b ps cs o => by
    obtain ⟨p3, c3, e, _, r3, h3⟩ := o.rb HY.out.2.2
    rw [HY.out.2.1] at e r3
    injection e with e1 e2 e3
    rw [e1]
    exact r3
  clear hys
  have hl : Lv (w.alloc (.cells #[.int .i64 3] 3)) w.heap.size [.int .i64 3] := Lv.new w _ _
  have HN : Hid (∀ z, Kp (fun _ => False) (w.alloc (.cells #[.int .i64 3] 3)) z → Calls _ _ _ z _) := fun z k => new10 w.heap.size 0 1 z (k.cellv (hl.cell (j := 0) rfl) id) (by omega)
  have HC : Hid (∀ z, Kp (fun _ => False) w z → Calls Tryd.prog 17 #[.slice p r c] z fun e w'' => ∃ v, e = .returned v ∧ Kp (fun _ => False) z w'' ∧ Ow w'' z.heap.size v (xs.take r)) := fun z k => clone_any p r c _ z (hx.keep0 k) (by show _ ≤ _; omega)
  have k0 : Kp (fun _ => False) w (w.alloc (.cells #[.int .i64 3] 3)) := (Kp.refl _ _).alloc _
  clear h hc hn hx hl hr
  go_enter Tryd.func4, Tryd.ntmps4
  go_wp2_with fail
  refine (HN.out _ ((Kp.refl _ _).alloc _)).mono ?_
  rintro e w1 ⟨m, f, q, oq, cq, g, rfl, k1, M1⟩
  have hfr := M1.fresh
  simp only [World.size_alloc] at hfr
  have HFR : Hid (w.heap.size ≤ m ∧ w.heap.size ≤ f ∧ w.heap.size ≤ g ∧ m < w1.heap.size ∧ f < w1.heap.size ∧ g < w1.heap.size) := ⟨by omega, by omega, by omega, M1.lm.lt (by simp), M1.lf.lt (by simp), M1.lg.lt (by simp)⟩
  have HM1 : Hid (Mn w1 ((w.alloc (.cells #[.int .i64 3] 3)).alloc (.cells #[.int .i64 9, .int .i64 5, .int .u32 0, .int .i64 1, .int .i64 0, .slice (some ⟨w.heap.size, 0, none⟩) 1 1] 33)).heap.size m f q oq cq g) := M1
  have HK1 : Hid (Kp (fun _ => False) w w1) := (k0.alloc _).trans k1 (fun _ _ e => e)
  clear HN M1 hfr k1 k0
  go_wp2_with fail
  refine (HC.out _ HK1.out).mono ?_
  rintro e w2 ⟨v2, rfl, k2, o2⟩
  have HO2 : Hid (Ow w2 w1.heap.size v2 (xs.take r)) := o2
  have HK2 : Hid (Kp (fun _ => False) w1 w2) := k2
  clear HC k2 o2
  go_wp2_with (at_builtin; go_must (refine wpList_append_nou _ rfl _ _ rfl w1.heap.size _ (xs.take r) (8 - r) rfl rfl (by omega) (by rw [HXL.out]; omega) HO2.out HK2.out.size ?_); intro v3 w3 o3 k3 hb3; obtain ⟨p3, c3, hv3, rb3, hp3⟩ := HV.out _ _ _ o3; have HK3 : Hid (Kp (fun _ => False) w1 w3) := Kp.app HK2.out HO2.out k3; clear k3 hb3 o3; subst hv3)
  have hM3 : Mn w3 _ m f q oq cq g := ⟨HM1.out.lm.keep HK3.out id, HM1.out.lf.keep HK3.out id, HM1.out.lg.keep HK3.out id, HK3.out.cellv HM1.out.lq id, HM1.out.fresh, HM1.out.apart⟩
  have HON : Hid (Calls _ _ _ w3 _) := mon_fetch p3 c3 ys hM3 rb3
  have HR3 : Hid (Rb w3 p3 8 ys ∧ ∀ a, p3 = some a → w1.heap.size ≤ a.block) := ⟨rb3, fun a ha => (hp3 a ha).1⟩
  clear hM3 rb3 hp3 HO2 HK2 HM1
  refine HON.out.mono ?_
  rintro e w4 ⟨ps, cs, rfl, k4, o4, l4⟩
  have HK4 : Hid (Kp (fun b => b = m ∨ b = f ∨ b = g) w3 w4) := k4
  have HR4 : Hid (Rb w4 p3 8 ys) := HR3.out.1.keep k4 (fun a ha _ e => by
    have h1 := HR3.out.2 a ha
    have h2 := HFR.out
    have e' : a.block = m ∨ a.block = f ∨ a.block = g := e
    omega)
  have HL4 : Hid (Lv w4 m (movA 2 9 0 0 3 (.pointer none) (.slice ps 8 cs) 0)) := l4
  have HSH : Hid (Calls _ _ _ w4 _) := mshard_ok ps 8 cs ys l4 (by decide) (HV2.out _ _ _ _ o4) (by show _ ≤ _; decide)
  clear HON k4 o4 l4
  go_wp2_with fail
  refine HSH.out.mono ?_
  rintro e w5 ⟨v5, rfl, k5, o5⟩
  obtain ⟨p5, c5, hv5, rb5, _⟩ := HV.out v5 w5 _ (by rw [← HY.out.1]; exact o5)
  subst hv5
  have HBE : Hid (Calls _ _ _ w5 _) := bytes_same p5 p3 8 8 c5 c3 ys w5 rb5 (HR4.out.keep0 k5)
  have HK5 : Hid (Kp (fun _ => False) w4 w5) := k5
  have HL5 : Hid (Lv w5 m (movA 2 9 0 0 3 (.pointer none) (.slice ps 8 cs) 0)) := HL4.out.keep k5 id
  have HSK : Hid (Calls _ _ _ w5 _) := mskip_no HL5.out (by decide) (by decide)
  have HST : Hid (Calls _ _ _ w5 _) := mstored_ok E HL5.out hE0 hE1
  clear HSH k5 o5 rb5 HV HV2
  go_wp2_with (first
    | (go_at_call 18; refine HBE.out.mono ?_; rintro e z1 ⟨rfl, hz1⟩; subst hz1)
    | (go_at_call 21; refine HSK.out.mono ?_; rintro e z1 ⟨rfl, hz1⟩; subst hz1)
    | (go_at_call 22; refine HST.out.mono ?_; rintro e w6 ⟨rfl, k6, l6⟩; have HL6 : Hid (Lv w6 m (movA 3 9 0 0 3 (.pointer none) (.slice ps 8 cs) (E + 1))) := l6; have HK6 : Hid (Kp (fun b => b = m) _ w6) := k6; clear l6 k6)
    | (go_at_call 15; refine (mphase_ok m 3 _ (HL6.out.cell (j := 0) rfl)).mono ?_; rintro e z1 ⟨rfl, hz1⟩; subst hz1))
  have HKZ : Hid (Kp (fun _ => False) w z1) := by
    have hf := HFR.out
    have a1 := HK1.out.trans HK3.out (fun _ _ e => e)
    have a2 := a1.trans HK4.out (fun b hb e => by have e' : b = m ∨ b = f ∨ b = g := e; omega)
    have a3 := a2.trans HK5.out (fun _ _ e => e)
    exact a3.trans HK6.out (fun b hb e => by have e' : b = m := e; omega)
  clear HK1 HK3 HK4 HK5 HK6 HL4 HL5 HR4 HR3 HBE HSK HST
  have ka : Kp (fun _ => False) z1 (z1.alloc (.cells #[.int .i64 14, .int .i64 0, .int .i64 3, .int .i64 0, .int .i64 0, .int .i64 9, .int .i64 0, .int .i64 (E + 1), .int .i64 0, .bool false, .int .i64 0, .int .i64 0, .string ⟨#[]⟩, .int .i64 0, .int .i64 0, .int .i64 0, .int .i64 0, .int .i64 0, .int .u32 0, .int .i64 0, .int .i64 0, .slice none 0 0, .slice none 0 0, .slice none 0 0] 45)) := (Kp.refl _ _).alloc _
  have lw : Lv (z1.alloc (.cells #[.int .i64 14, .int .i64 0, .int .i64 3, .int .i64 0, .int .i64 0, .int .i64 9, .int .i64 0, .int .i64 (E + 1), .int .i64 0, .bool false, .int .i64 0, .int .i64 0, .string ⟨#[]⟩, .int .i64 0, .int .i64 0, .int .i64 0, .int .i64 0, .int .i64 0, .int .u32 0, .int .i64 0, .int .i64 0, .slice none 0 0, .slice none 0 0, .slice none 0 0] 45)) z1.heap.size (nilA ⟨14, 0, 3, 0, 0, 9, 0, E + 1, 0, false, ⟨0, 0, ⟨#[]⟩, 0, 0, 0, 0, 0, 0, 0, 0⟩⟩).toList := Lv.new z1 _ _
  refine (masks_fence 7 (HL6.out.keep ka id)).mono ?_
  rintro e w7 ⟨g7, rfl, k7, l7⟩
  have HSM : Hid (Calls _ _ _ w7 _) := same_msgs1 ⟨14, 0, 3, 0, 0, 9, 0, E + 1, 0, false, ⟨0, 0, ⟨#[]⟩, 0, 0, 0, 0, 0, 0, 0, 0⟩⟩ g7 z1.heap.size 1 1 w7 l7 (lw.keep k7 id)
  have HK7 : Hid (Kp (fun _ => False) z1 w7) := ka.trans k7 (fun _ _ e => e)
  have HL7 : Hid (∀ u, Kp (fun _ => False) w7 u → Lv u m (movA 3 9 0 0 3 (.pointer none) (.slice ps 8 cs) (E + 1))) := fun u k => (HL6.out.keep HK7.out id).keep k id
  clear ka lw k7 l7 HL6
  go_wp2_with (first
    | (go_at_call 23; refine HSM.out.mono ?_; rintro e w8 ⟨rfl, k8⟩; have HK8 : Hid (Kp (fun _ => False) w7 w8) := k8; clear k8))
  refine (mon_not (HL7.out _ HK8.out)).mono ?_
  rintro e w9 ⟨rfl, k9⟩
  have HK9 : Hid (Kp (fun _ => False) w7 w9) := HK8.out.trans k9 (fun _ _ e => e)
  clear k9 HK8 HSM
  go_wp2_with fail
  refine (mon_other (HL7.out _ HK9.out)).mono ?_
  rintro e w10 ⟨rfl, k10⟩
  have HK10 : Hid (Kp (fun _ => False) w7 w10) := HK9.out.trans k10 (fun _ _ e => e)
  have HL10 : Hid (Lv w10 m (movA 3 9 0 0 3 (.pointer none) (.slice ps 8 cs) (E + 1))) := HL7.out _ HK10.out
  have HKW : Hid (Kp (fun _ => False) w w10) := (HKZ.out.trans HK7.out (fun _ _ e => e)).trans HK10.out (fun _ _ e => e)
  have HFM : Hid (w.heap.size ≤ m) := HFR.out.1
  clear k10 HK9 HK10 HL7 HK7 HKZ HFR
  cases skip with
  | true =>
    have HSK : Hid (Calls _ _ _ w10 _) := mskip_ok HL10.out
    go_wp2_with (first
      | (go_at_call 21; refine HSK.out.mono ?_; rintro e w11 ⟨rfl, k11, l11⟩; have HL11 : Hid (Lv w11 m (movA 4 9 0 0 3 (.pointer none) (.slice ps 8 cs) (E + 1))) := l11; have HK11 : Hid (Kp (fun b => b = m) w10 w11) := k11; clear l11 k11)
      | (go_at_call 15; refine (mphase_ok m 4 _ (HL11.out.cell (j := 0) rfl)).mono ?_; rintro e z2 ⟨rfl, hz2⟩; subst hz2)
      | (go_at_call 24; refine (masks_done 7 HL11.out).mono ?_; rintro e z3 ⟨rfl, hz3⟩; subst hz3))
    go_ret
    exact ⟨rfl, HKW.out.trans HK11.out (fun b hb e => by have h1 := HFM.out; have e' : b = m := e; omega)⟩
  | false =>
    have HSK : Hid (Calls _ _ _ w10 _) := mon_fenced HL10.out
    go_wp2_with (first
      | (go_at_call 16; refine HSK.out.mono ?_; rintro e w11 ⟨rfl, k11, l11⟩; have HL11 : Hid (Lv w11 m (movA 4 9 0 0 3 (.pointer none) (.slice ps 8 cs) (E + 1))) := l11; have HK11 : Hid (Kp (fun b => b = m) w10 w11) := k11; clear l11 k11)
      | (go_at_call 15; refine (mphase_ok m 4 _ (HL11.out.cell (j := 0) rfl)).mono ?_; rintro e z2 ⟨rfl, hz2⟩; subst hz2)
      | (go_at_call 24; refine (masks_done 7 HL11.out).mono ?_; rintro e z3 ⟨rfl, hz3⟩; subst hz3))
    go_ret
    exact ⟨rfl, HKW.out.trans HK11.out (fun b hb e => by have h1 := HFM.out; have e' : b = m := e; omega)⟩
end Go.Proofs.YtmncocmeafcpfaaDoor

/- A start that meets the rows' condition on galois.powers and frame.turns. -/
namespace Go.Proofs.YtmncocmeafcpfaaDoor
open Go.ChangeShapes Go.WideShapes Go.ChangeAt Go.WideMaps Go.WideElems Go.RowKit

abbrev laid1 : List (String × DataW Unit) := [("amphora/galois.powers", Rows.laid_amphora_galois_powers), ("amphora/frame.turns", Rows.laid_amphora_frame_turns)]
theorem own : ownKnob Tryd.prog.godebug = none := by kernel_rfl
theorem laid_met (os : Os) (args : Array Value) : laidMetH Tryd.prog laid1 ((World.doorLaid Tryd.prog 400 os).forCall (fun _ _ => 0) ⟨#[], args, []⟩).memory :=
  laidMetH_of_parts3 (fuel := 8) (laidMet_of_run' 8 (by kernel_rfl) (by kernel_rfl)) (by kernel_rfl) (by kernel_rfl)
end Go.Proofs.YtmncocmeafcpfaaDoor

/- What the rows' listed table gives the walks: each cell of galois.powers and frame.turns. -/
namespace Go.Proofs.YtmncocmeafcpfaaDoor
open Go.ChangeShapes Go.WideShapes Go.ChangeAt Go.WideMaps Go.WideElems Go.RowKit

theorem gTurns : Tryd.prog.globalNamed "amphora/frame.turns" = some 0 := by kernel_rfl
theorem tTurns : (Tryd.prog.globals[0]?).map (·.type) = some 153 := by kernel_rfl
theorem word_at {W : World} {cs : Array Value} {t : TypeId} {n fuel : Nat} {p : List MemPlace} (ht : Tryd.prog.underlying t = some (.array n 31)) (ds : List Nat)
    (hd : DataW.trod (fun _ : TypeId × Value => ()) Tryd.prog W 0 (fun _ => true) false fuel t cs.toList = some (.agg (ds.map fun z : Nat => .lit (.int .u32 (z : Int))), p)) (i : Nat) (hi : i < n) :
    cs[i]? = some (.int .u32 ((ds.getD i 0 : Nat) : Int)) := by
  obtain ⟨xs, m, rfl, hx, hlen, hn, hel⟩ := DataW.trod_array ht hd
  have c5 : Tryd.prog.cellsOf 31 = 1 := by kernel_rfl
  have h := hel i hi
  rw [c5, Nat.mul_one] at h
  have hxi : xs[i]? = some xs[i] := List.getElem?_eq_getElem (by omega)
  rw [hxi] at h
  obtain ⟨k, e1, e2, _⟩ := DataW.trod_int Tryd.underlying31 h
  simp only [Prod.mk.injEq, DataW.agg.injEq] at hx
  have hm := congrArg (fun l => l[i]?) hx.1
  simp only [List.getElem?_map, hxi, Option.map_some] at hm
  cases hz : ds[i]? with
  | none => rw [hz] at hm; simp at hm
  | some z =>
    rw [hz, Option.map_some, e2] at hm
    simp only [Option.some.injEq, DataW.lit.injEq, Lit.int.injEq] at hm
    have hk : k = (z : Int) := hm.2.symm
    have h0 : (List.take 1 (List.drop i cs.toList))[0]? = some (Value.int .u32 k) := by rw [e1]; rfl
    rw [List.getElem?_take_of_lt (by omega), List.getElem?_drop, Nat.add_zero, Array.getElem?_toList] at h0
    rw [h0, hk, List.getD_eq_getElem?_getD, hz]
    rfl

theorem turns_of {W : World} {cs : Array Value} {fuel : Nat} {p : List MemPlace} (hv : World.var? Tryd.prog W "amphora/frame.turns" = some cs)
    (hd : DataW.trod (fun _ : TypeId × Value => ()) Tryd.prog W 0 (fun _ => true) false fuel 153 cs.toList = some (Rows.laid_amphora_frame_turns, p)) : Turns W := by
  intro k hk
  have hb := word_at (ds := [0, 274646895, 549293790, 820201905, 1098587580, 1361435347, 1640403810, 1905808397, 2197175160, 2460548119, 2722870694, 2987750089, 3280807620, 3553878443, 3811616794, 4084100981]) Tryd.underlying153 hd k hk
  have hc := World.var?_cell gTurns hv k
  rw [hc, hb]
  have : ∀ k, k < 16 → ([0, 274646895, 549293790, 820201905, 1098587580, 1361435347, 1640403810, 1905808397, 2197175160, 2460548119, 2722870694, 2987750089, 3280807620, 3553878443, 3811616794, 4084100981] : List Nat).getD k 0 = Crc.tn k := by decide
  rw [this k hk]

/-- what the rows that list both tables give the walks -/
theorem laid2 {W : World} (h : laidMetH Tryd.prog laid1 W) : Mf.Pows W ∧ Turns W := by
  rw [MakeChecks.laidMetH_plain _ _ _ (by kernel_rfl)] at h
  obtain ⟨ps, ⟨g1, t1, cs1, f1, p1, q1, hg1, ht1, hv1, hd1, ⟨g2, t2, cs2, f2, p2, q2, hg2, ht2, hv2, hd2, _, _⟩, _⟩, _, _⟩ := h
  obtain rfl := Option.some.inj (Mf.gPows.symm.trans hg1)
  obtain rfl := Option.some.inj (Mf.tPows.symm.trans ht1)
  obtain rfl := Option.some.inj (gTurns.symm.trans hg2)
  obtain rfl := Option.some.inj (tTurns.symm.trans ht2)
  exact ⟨Mf.pows_of hv1 hd1, turns_of hv2 hd2⟩
theorem pows_of_laid2 {W : World} (h : laidMetH Tryd.prog laid1 W) : Mf.Pows W := (laid2 h).1
theorem turns_of_laid2 {W : World} (h : laidMetH Tryd.prog laid1 W) : Turns W := (laid2 h).2
end Go.Proofs.YtmncocmeafcpfaaDoor
