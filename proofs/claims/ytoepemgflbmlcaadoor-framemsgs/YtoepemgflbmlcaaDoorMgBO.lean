/- Texts of this proof, joined: Pb4, Lt. -/
import Derived.Test.YtoepemgflbmlcaaDoorMgBN
import Derived.Test.YtoepemgflbmlcaaDoorMgAU
import Derived.Test.YtoepemgflbmlcaaDoorMgBF
import Derived.Test.YtoepemgflbmlcaaDoorMgAI
import Derived.Test.YtoepemgflbmlcaaDoorRows
import Derived.ProofKit
import Derived.LaidMore
import Derived.OpenShut
import Derived.Stop.Joined
/- FrameMsgs. -/
namespace Go.Proofs.YtoepemgflbmlcaaDoor
set_option linter.unusedVariables false
set_option linter.unusedSimpArgs false
open Go.RowKit Go.Deep

set_option maxRecDepth 100000 in
set_option maxHeartbeats 3200000 in
theorem frameMsgs_walk (xa : Array Value) (p : Option Addr) (n cap : Nat) (xs : List Nat) (w : World) (hc : ∃ μ : Ms, Mr w (· < w.heap.size) μ (.agg xa) ∧ goodM μ) (h : Rb w p n xs) (hnc : n ≤ cap) (hcap : Hid (cap ≤ 140737488355328)) (ht : Turns w) :
    Calls Tryd.prog 4 #[.agg xa, .slice p n cap] w fun e w' => e = .returned (.bool true) ∧ Kp (fun _ => False) w w' := by
  obtain ⟨μ, hμ, hg⟩ := hc
  have HC1 : Hid (∀ u, Kp (fun _ => False) w u → Calls Tryd.prog 14 #[.agg xa] u fun e w' => MsgRes μ u e w' ∧ Kp (fun _ => False) u w') := fun u k => fmsg_ok _ μ _ u (hμ.keep k (fun _ _ => id)) (fun b hb => Nat.lt_of_lt_of_le hb k.size) hg
  have HC2 : Hid (∀ u, Kp (fun _ => False) w u → Calls Tryd.prog 15 #[.agg xa] u fun e w' => MsgRes μ u e w' ∧ Kp (fun _ => False) u w') := fun u k => xmsgw_ok _ μ _ u (hμ.keep k (fun _ _ => id)) (fun b hb => Nat.lt_of_lt_of_le hb k.size) hg
  have HR1 : Hid (∀ u, Kp (fun _ => False) w u → Calls Tryd.prog 16 #[.slice p n cap] u fun e w' => MtRes xs u e w' ∧ Kp (fun _ => False) u w') := fun u k => readmsg_ok p n cap xs u (h.keep0 k) hnc (by have := hcap.out; omega)
  have HR2 : Hid (∀ u, Kp (fun _ => False) w u → Calls Tryd.prog 17 #[.slice p n cap] u fun e w' => MtRes xs u e w' ∧ Kp (fun _ => False) u w') := fun u k => xreadmsg_ok p n cap xs u (h.keep0 k) hnc (by have := hcap.out; omega)
  have HW : Hid (∀ u, Kp (fun _ => False) w u → Calls Tryd.prog 13 #[.slice none 0 0] u fun e w' => e = .returned (.bool true) ∧ Kp (fun _ => False) u w') := fun u k => frameWraps_walk none 0 0 [] u (Rb.nil _ _) (Nat.le_refl _) (Nat.zero_le _) (ht.keep0 k)
  have HS : Hid (goodM μ ∧ ∀ x ∈ μ.bytes, x < 256) := ⟨hg, by obtain ⟨_, _, _, _, _, _, _, _, _, _, _, _, _, _, _, h8, _⟩ := hμ; exact h8⟩
  have HK0 : Hid (Kp (fun _ => False) w (w.alloc (.cells xa 40))) := (Kp.refl _ _).alloc _
  have HL0 : Hid (Lv (w.alloc (.cells xa 40)) w.heap.size xa.toList) := Lv.new w _ _
  have HXl : Hid (xa.toList.length = 24) := by obtain ⟨p, cp, pv, cv, l, pb, cb, e, _⟩ := hμ; injection e with e; rw [e]; rfl
  clear hμ hg h hnc hcap ht
  obtain ⟨dC, hdC, hdR⟩ := dsMsg
  go_enter Tryd.func4, Tryd.ntmps4
  go_upto_region 1 with fail
  obtain ⟨u0, hu0⟩ : ∃ x, x = w.alloc (.cells xa 40) := ⟨_, rfl⟩
  rw [← hu0] at HK0 HL0 ⊢
  clear hu0
  go_wp2_with (refine wpList_load_all rfl 40 _ rfl 24 w.heap.size xa.toList rfl HL0.out ⟨dC, hdC, hdR⟩ szMsg HXl.out ?_; rw [Array.toArray_toList])
  refine (HC1.out u0 HK0.out).mono ?_
  rintro e9 w1 ⟨hr, k1⟩
  obtain ⟨q1, m1, c1, rfl, b1, _⟩ := hr.norm HS.out.1 HS.out.2
  have HK1 : Hid (Kp (fun _ => False) w w1) := HK0.out.trans k1 (fun _ _ e => e)
  have HL1 : Hid (Lv w1 w.heap.size xa.toList) := HL0.out.keep k1 id
  have HB1 : Hid (Rb w1 q1 m1 (msgR μ).1) := b1
  clear k1 b1 hr
  obtain ⟨rb, hrb⟩ : ∃ x, x = (msgR μ).1 := ⟨_, rfl⟩
  obtain ⟨re, hre⟩ : ∃ x, x = (msgR μ).2 := ⟨_, rfl⟩
  rw [← hrb] at HB1
  rw [← hre]
  go_wp2_with (refine wpList_load_all rfl 40 _ rfl 24 w.heap.size xa.toList rfl HL1.out ⟨dC, hdC, hdR⟩ szMsg HXl.out ?_; rw [Array.toArray_toList])
  refine (HC2.out w1 HK1.out).mono ?_
  rintro e9 w2 ⟨hr, k2⟩
  obtain ⟨q2, m2, c2, rfl, b2, _⟩ := hr.norm HS.out.1 HS.out.2
  rw [← hrb] at b2
  rw [← hre]
  have HK2 : Hid (Kp (fun _ => False) w w2) := HK1.out.trans k2 (fun _ _ e => e)
  have HB2 : Hid (Rb w2 q1 m1 rb ∧ Rb w2 q2 m2 rb) := ⟨HB1.out.keep0 k2, b2⟩
  clear k2 b2 hr hrb hre HL1 HB1
  go_wp2_with fail
  refine (HR1.out w2 HK2.out).mono ?_
  rintro e9 w3 ⟨hr, k3⟩
  obtain ⟨xb, rfl, f3, l3, o3⟩ := hr.norm
  obtain ⟨A, hA⟩ : ∃ x, x = mtR xs := ⟨_, rfl⟩
  rw [← hA] at f3 ⊢
  have HA : Hid (A = mtR xs) := hA
  have HXbl : Hid (xb.toList.length = 24) := l3
  have HXb1 : Hid (xb.toList.toArray.all (·.oneCell') = true) := o3
  have HK3 : Hid (Kp (fun _ => False) w w3) := HK2.out.trans k3 (fun _ _ e => e)
  have HB3 : Hid (Rb w3 q1 m1 rb ∧ Rb w3 q2 m2 rb) := ⟨HB2.out.1.keep0 k3, HB2.out.2.keep0 k3⟩
  have HF3 : Hid (Mr w3 (fun _ => True) A.1 (.agg xb)) := f3
  clear k3 f3 l3 o3 hr hA HB2
  obtain ⟨ae, hae⟩ : ∃ x, x = A.2 := ⟨_, rfl⟩
  rw [← hae]
  go_upto_region 4 with (refine wpList_store_all rfl 40 _ _ rfl 24 w3.heap.size zeroM.toList xb.toList rfl (by rw [Array.toArray_toList]; rfl) (by exact Lv.new w3 _ _) szMsg rfl HXbl.out HXb1.out ?_; intro w4 hl4 k4)
  have k34 : Kp (fun _ => False) w3 w4 := ((Kp.refl (fun _ => False) w3).alloc (.cells zeroM 40)).trans k4 (fun b hb e => by omega)
  obtain ⟨g, hg⟩ : ∃ x, x = w3.heap.size := ⟨_, rfl⟩
  rw [← hg] at hl4 ⊢
  have HK4 : Hid (Kp (fun _ => False) w w4) := HK3.out.trans k34 (fun _ _ e => e)
  have HL4 : Hid (Lv w4 g xb.toList) := hl4
  have HB4 : Hid (Rb w4 q1 m1 rb ∧ Rb w4 q2 m2 rb) := ⟨HB3.out.1.keep0 k34, HB3.out.2.keep0 k34⟩
  have HF4 : Hid (Mr w4 (fun _ => True) A.1 (.agg xb)) := HF3.out.keep k34 (fun _ _ => id)
  clear k4 k34 hl4 hg HB3 HF3
  go_wp2_with fail
  refine (HR2.out w4 HK4.out).mono ?_
  rintro e9 w5 ⟨hr, k5⟩
  obtain ⟨xc, rfl, f5, l5, o5⟩ := hr.norm
  rw [← HA.out] at f5 ⊢
  have HXcl : Hid (xc.toList.length = 24) := l5
  have HXc1 : Hid (xc.toList.toArray.all (·.oneCell') = true) := o5
  rw [← hae]
  have HK5 : Hid (Kp (fun _ => False) w w5) := HK4.out.trans k5 (fun _ _ e => e)
  have HL5 : Hid (Lv w5 g xb.toList) := HL4.out.keep k5 id
  have HB5 : Hid (Rb w5 q1 m1 rb ∧ Rb w5 q2 m2 rb) := ⟨HB4.out.1.keep0 k5, HB4.out.2.keep0 k5⟩
  have HF5 : Hid (Mr w5 (fun _ => True) A.1 (.agg xb) ∧ Mr w5 (fun _ => True) A.1 (.agg xc)) := ⟨HF4.out.keep k5 (fun _ _ => id), f5⟩
  clear k5 f5 l5 o5 hr hae HB4 HF4 HL4
  go_upto_region 5 with (refine wpList_store_all rfl 40 _ _ rfl 24 w5.heap.size zeroM.toList xc.toList rfl (by rw [Array.toArray_toList]; rfl) (by exact Lv.new w5 _ _) szMsg rfl HXcl.out HXc1.out ?_; intro w6 hl6 k6)
  have k56 : Kp (fun _ => False) w5 w6 := ((Kp.refl (fun _ => False) w5).alloc (.cells zeroM 40)).trans k6 (fun b hb e => by omega)
  obtain ⟨g2, hg2⟩ : ∃ x, x = w5.heap.size := ⟨_, rfl⟩
  rw [← hg2] at hl6 ⊢
  have HK6 : Hid (Kp (fun _ => False) w w6) := HK5.out.trans k56 (fun _ _ e => e)
  have HL6 : Hid (Lv w6 g xb.toList ∧ Lv w6 g2 xc.toList) := ⟨HL5.out.keep k56 id, hl6⟩
  have HE : Hid (Calls _ _ _ w6 _) := bytes_same q1 q2 m1 m2 c1 c2 rb w6 (HB5.out.1.keep0 k56) (HB5.out.2.keep0 k56)
  have HSc : Hid (Calls Tryd.prog 18 #[.agg xb, .agg xc] w6 fun e w' => e = .returned (.bool true) ∧ Kp (fun _ => False) w6 w') := same_msg _ _ A.1 _ _ w6 (HF5.out.1.keep k56 (fun _ _ => id)) (HF5.out.2.keep k56 (fun _ _ => id))
  clear k6 k56 hl6 hg2 HB5 HF5 HL5
  go_wp2_with fail
  refine HE.out.mono ?_
  rintro e9 w9 ⟨rfl, hw9⟩
  have hw8 := hw9.symm
  subst hw8
  clear hw9
  go_wp2_with (first
    | (refine wpList_ldw (by first | rfl | go_simp) 40 _ rfl g rfl xb.toList dC HL6.out.1 hdC hdR (by rw [szMsg, HXbl.out]) ?_; rw [Array.toArray_toList])
    | (refine wpList_ldw (by first | rfl | go_simp) 40 _ rfl g2 rfl xc.toList dC HL6.out.2 hdC hdR (by rw [szMsg, HXcl.out]) ?_; rw [Array.toArray_toList]))
  refine HSc.out.mono ?_
  rintro e9 w7 ⟨rfl, k7⟩
  have HK7 : Hid (Kp (fun _ => False) w w7) := HK6.out.trans k7 (fun _ _ e => e)
  clear k7
  go_wp2_with fail
  refine (HW.out w7 HK7.out).mono ?_
  rintro e9 w8 ⟨rfl, k8⟩
  have HK8 : Hid (Kp (fun _ => False) w w8) := HK7.out.trans k8 (fun _ _ e => e)
  clear k8
  go_wp2_with fail
  go_ret
  exact ⟨rfl, HK8.out⟩
end Go.Proofs.YtoepemgflbmlcaaDoor

/- What the rows' listed table gives the walks: each cell of frame.turns; and a start that meets the rows' condition. -/
namespace Go.Proofs.YtoepemgflbmlcaaDoor
open Go.ChangeShapes Go.WideShapes Go.ChangeAt Go.WideMaps Go.WideElems Go.RowKit

abbrev laid1 : List (String × DataW Unit) := [("amphora/frame.turns", Rows.laid_amphora_frame_turns)]
theorem own : ownKnob Tryd.prog.godebug = none := by kernel_rfl
theorem gTurns : Tryd.prog.globalNamed "amphora/frame.turns" = some 0 := by kernel_rfl
theorem tTurns : (Tryd.prog.globals[0]?).map (·.type) = some 91 := by kernel_rfl
theorem laid_met (os : Os) (args : Array Value) : laidMetH Tryd.prog laid1 ((World.doorLaid Tryd.prog 400 os).forCall (fun _ _ => 0) ⟨#[], args, []⟩).memory :=
  laidMetH_of_parts3 (fuel := 8) (laidMet_of_run' 8 (by kernel_rfl) (by kernel_rfl)) (by kernel_rfl) (by kernel_rfl)

theorem word_at {W : World} {cs : Array Value} {t : TypeId} {n fuel : Nat} {p : List MemPlace} (ht : Tryd.prog.underlying t = some (.array n 22)) (ds : List Nat)
    (hd : DataW.trod (fun _ : TypeId × Value => ()) Tryd.prog W 0 (fun _ => true) false fuel t cs.toList = some (.agg (ds.map fun z : Nat => .lit (.int .u32 (z : Int))), p)) (i : Nat) (hi : i < n) :
    cs[i]? = some (.int .u32 ((ds.getD i 0 : Nat) : Int)) := by
  obtain ⟨xs, m, rfl, hx, hlen, hn, hel⟩ := DataW.trod_array ht hd
  have c5 : Tryd.prog.cellsOf 22 = 1 := by kernel_rfl
  have h := hel i hi
  rw [c5, Nat.mul_one] at h
  have hxi : xs[i]? = some xs[i] := List.getElem?_eq_getElem (by omega)
  rw [hxi] at h
  obtain ⟨k, e1, e2, _⟩ := DataW.trod_int Tryd.underlying22 h
  simp only [Prod.mk.injEq, DataW.agg.injEq] at hx
  have hm := congrArg (fun l => l[i]?) hx.1
  simp only [List.getElem?_map, hxi, Option.map_some] at hm
  cases hz : ds[i]? with
  | none => rw [hz] at hm; simp at hm
  | some z =>
    rw [hz, Option.map_some, e2] at hm
    simp only [Option.some.injEq, DataW.lit.injEq, Lit.int.injEq] at hm
    have hk : k = (z : Int) := hm.2.symm
    have h0 : (List.take 1 (List.drop i cs.toList))[0]? = some (Value.int .u32 k) := by rw [e1]; rfl
    rw [List.getElem?_take_of_lt (by omega), List.getElem?_drop, Nat.add_zero, Array.getElem?_toList] at h0
    rw [h0, hk, List.getD_eq_getElem?_getD, hz]
    rfl

theorem turns_of {W : World} {cs : Array Value} {fuel : Nat} {p : List MemPlace} (hv : World.var? Tryd.prog W "amphora/frame.turns" = some cs)
    (hd : DataW.trod (fun _ : TypeId × Value => ()) Tryd.prog W 0 (fun _ => true) false fuel 91 cs.toList = some (Rows.laid_amphora_frame_turns, p)) : Turns W := by
  intro k hk
  have hb := word_at (ds := [0, 274646895, 549293790, 820201905, 1098587580, 1361435347, 1640403810, 1905808397, 2197175160, 2460548119, 2722870694, 2987750089, 3280807620, 3553878443, 3811616794, 4084100981]) Tryd.underlying91 hd k hk
  have hc := World.var?_cell gTurns hv k
  rw [hc, hb]
  have : ∀ k, k < 16 → ([0, 274646895, 549293790, 820201905, 1098587580, 1361435347, 1640403810, 1905808397, 2197175160, 2460548119, 2722870694, 2987750089, 3280807620, 3553878443, 3811616794, 4084100981] : List Nat).getD k 0 = Crc.tn k := by decide
  rw [this k hk]

/-- what the rows that list the turns give the walks -/
theorem turns_of_laid {W : World} (h : laidMetH Tryd.prog laid1 W) : Turns W := by
  rw [MakeChecks.laidMetH_plain _ _ _ (by kernel_rfl)] at h
  obtain ⟨ps, ⟨g1, t1, cs1, f1, p1, q1, hg1, ht1, hv1, hd1, _, _⟩, _, _⟩ := h
  obtain rfl := Option.some.inj (gTurns.symm.trans hg1)
  obtain rfl := Option.some.inj (tTurns.symm.trans ht1)
  exact turns_of hv1 hd1
end Go.Proofs.YtoepemgflbmlcaaDoor
