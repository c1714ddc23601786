/- Texts of this proof, joined: Lh, Li, Zj, Ft. -/
import Derived.Test.YtmncocmeafcpfaaDoorMgAI
import Derived.Test.YtmncocmeafcpfaaDoorRows
import Derived.ProofKit
import Derived.LaidMore
import Derived.OpenShut
import Derived.Stop.Joined
import Derived.Test.YtmncocmeafcpfaaDoorMgAM
import Derived.Test.YtmncocmeafcpfaaDoorMgAH
import Derived.Test.YtmncocmeafcpfaaDoorMgAP
import Derived.Test.YtmncocmeafcpfaaDoorMgAQ
import Derived.ShutString
import Derived.ChangeOld
import Derived.Below
import Derived.SizedLaws
/- A start that meets the rows' condition on galois.powers and frame.turns. -/
namespace Go.Proofs.YtmncocmeafcpfaaDoor
open Go.ChangeShapes Go.WideShapes Go.ChangeAt Go.WideMaps Go.WideElems Go.RowKit

abbrev laid1 : List (String × DataW Unit) := [("amphora/galois.powers", Rows.laid_amphora_galois_powers), ("amphora/frame.turns", Rows.laid_amphora_frame_turns)]
theorem own : ownKnob Tryd.prog.godebug = none := by kernel_rfl
theorem laid_met (os : Os) (args : Array Value) : laidMetH Tryd.prog laid1 ((World.doorLaid Tryd.prog 400 os).forCall (fun _ _ => 0) ⟨#[], args, []⟩).memory :=
  laidMetH_of_parts3 (fuel := 8) (laidMet_of_run' 8 (by kernel_rfl) (by kernel_rfl)) (by kernel_rfl) (by kernel_rfl)
end Go.Proofs.YtmncocmeafcpfaaDoor

/- What the rows' listed table gives the walks: each cell of galois.powers and frame.turns. -/
namespace Go.Proofs.YtmncocmeafcpfaaDoor
open Go.ChangeShapes Go.WideShapes Go.ChangeAt Go.WideMaps Go.WideElems Go.RowKit

theorem gTurns : Tryd.prog.globalNamed "amphora/frame.turns" = some 0 := by kernel_rfl
theorem tTurns : (Tryd.prog.globals[0]?).map (·.type) = some 153 := by kernel_rfl
theorem word_at {W : World} {cs : Array Value} {t : TypeId} {n fuel : Nat} {p : List MemPlace} (ht : Tryd.prog.underlying t = some (.array n 31)) (ds : List Nat)
    (hd : DataW.trod (fun _ : TypeId × Value => ()) Tryd.prog W 0 (fun _ => true) false fuel t cs.toList = some (.agg (ds.map fun z : Nat => .lit (.int .u32 (z : Int))), p)) (i : Nat) (hi : i < n) :
    cs[i]? = some (.int .u32 ((ds.getD i 0 : Nat) : Int)) := by
  obtain ⟨xs, m, rfl, hx, hlen, hn, hel⟩ := DataW.trod_array ht hd
  have c5 : Tryd.prog.cellsOf 31 = 1 := by kernel_rfl
  have h := hel i hi
  rw [c5, Nat.mul_one] at h
  have hxi : xs[i]? = some xs[i] := List.getElem?_eq_getElem (by omega)
  rw [hxi] at h
  obtain ⟨k, e1, e2, _⟩ := DataW.trod_int Tryd.underlying31 h
  simp only [Prod.mk.injEq, DataW.agg.injEq] at hx
  have hm := congrArg (fun l => l[i]?) hx.1
  simp only [List.getElem?_map, hxi, Option.map_some] at hm
  cases hz : ds[i]? with
  | none => rw [hz] at hm; simp at hm
  | some z =>
    rw [hz, Option.map_some, e2] at hm
    simp only [Option.some.injEq, DataW.lit.injEq, Lit.int.injEq] at hm
    have hk : k = (z : Int) := hm.2.symm
    have h0 : (List.take 1 (List.drop i cs.toList))[0]? = some (Value.int .u32 k) := by rw [e1]; rfl
    rw [List.getElem?_take_of_lt (by omega), List.getElem?_drop, Nat.add_zero, Array.getElem?_toList] at h0
    rw [h0, hk, List.getD_eq_getElem?_getD, hz]
    rfl

theorem turns_of {W : World} {cs : Array Value} {fuel : Nat} {p : List MemPlace} (hv : World.var? Tryd.prog W "amphora/frame.turns" = some cs)
    (hd : DataW.trod (fun _ : TypeId × Value => ()) Tryd.prog W 0 (fun _ => true) false fuel 153 cs.toList = some (Rows.laid_amphora_frame_turns, p)) : Turns W := by
  intro k hk
  have hb := word_at (ds := [0, 274646895, 549293790, 820201905, 1098587580, 1361435347, 1640403810, 1905808397, 2197175160, 2460548119, 2722870694, 2987750089, 3280807620, 3553878443, 3811616794, 4084100981]) Tryd.underlying153 hd k hk
  have hc := World.var?_cell gTurns hv k
  rw [hc, hb]
  have : ∀ k, k < 16 → ([0, 274646895, 549293790, 820201905, 1098587580, 1361435347, 1640403810, 1905808397, 2197175160, 2460548119, 2722870694, 2987750089, 3280807620, 3553878443, 3811616794, 4084100981] : List Nat).getD k 0 = Crc.tn k := by decide
  rw [this k hk]

/-- what the rows that list both tables give the walks -/
theorem laid2 {W : World} (h : laidMetH Tryd.prog laid1 W) : Mf.Pows W ∧ Turns W := by
  rw [MakeChecks.laidMetH_plain _ _ _ (by kernel_rfl)] at h
  obtain ⟨ps, ⟨g1, t1, cs1, f1, p1, q1, hg1, ht1, hv1, hd1, ⟨g2, t2, cs2, f2, p2, q2, hg2, ht2, hv2, hd2, _, _⟩, _⟩, _, _⟩ := h
  obtain rfl := Option.some.inj (Mf.gPows.symm.trans hg1)
  obtain rfl := Option.some.inj (Mf.tPows.symm.trans ht1)
  obtain rfl := Option.some.inj (gTurns.symm.trans hg2)
  obtain rfl := Option.some.inj (tTurns.symm.trans ht2)
  exact ⟨Mf.pows_of hv1 hd1, turns_of hv2 hd2⟩
theorem pows_of_laid2 {W : World} (h : laidMetH Tryd.prog laid1 W) : Mf.Pows W := (laid2 h).1
theorem turns_of_laid2 {W : World} (h : laidMetH Tryd.prog laid1 W) : Turns W := (laid2 h).2
end Go.Proofs.YtmncocmeafcpfaaDoor

/- The walk of the law CoordRefused (laid by scripts/mkzj.py). -/
namespace Go.Proofs.YtmncocmeafcpfaaDoor
set_option linter.unusedVariables false
set_option linter.unusedSimpArgs false
open Go.RowKit Go.Deep

theorem asks_done (b : Nat) (i : Int) (x : Value) (w : World) (hc : w.cell? ⟨b, 3, none⟩ = some (.int .i64 i)) (hi : 0 < i) (hd : w.cell? ⟨b, 15, none⟩ = some (.bool true)) : Calls Tryd.prog 41 #[.pointer (some ⟨b, 0, none⟩), x] w fun e w' => e = .returned (.slice none 0 0) ∧ w' = w := by
  have H : Hid (Calls Tryd.prog 75 #[.pointer (some ⟨b, 0, none⟩)] w fun e w' => e = .returned (.bool false) ∧ w' = w) := copen b i true w hc hi hd
  clear hc hi hd
  go_enter Tryd.func41, Tryd.ntmps41
  go_wp2_with (go_at_call 75; refine H.out.mono ?_; rintro e w1 ⟨rfl, hw1⟩; subst hw1)
  go_ret
  exact ⟨rfl, rfl⟩
theorem nds456 : Nds [4, 5, 6] := ⟨by decide, fun i j hi hj h => by
  have h1 : i < 3 := hi
  have h2 : j < 3 := hj
  rcases i with _ | _ | _ | i <;> rcases j with _ | _ | _ | j <;> first | omega | simp⟩

set_option maxRecDepth 100000 in
set_option maxHeartbeats 6400000 in
theorem coordRefused_walk (p : Option Addr) (n c : Nat) (xs : List Nat) (iv : Int) (ca : Array Value) (w : World) (h : Rb w p n xs) (hc : n ≤ c) (hn : Hid (n ≤ 140737488355328)) (_h : (Lit.int .i64 iv).wf = true) (ha : AskIn ca) (hp : Mf.Pows w) (ht : Turns w) :
    Calls Tryd.prog 12 #[.slice p n c, .int .i64 iv, .agg ca] w fun e w' => e = .returned (.bool true) ∧ Kp (fun _ => False) w w' := by
  clear _h
  obtain ⟨aid, x1, x2, x3, rfl⟩ := ha
  obtain ⟨E, hE, hE0, hE1⟩ := mdE 3 iv (by omega) (by omega)
  obtain ⟨i, hi⟩ : ∃ i : Nat, (i : Int) = E := ⟨E.toNat, by omega⟩
  have hi3 : i < 3 := by omega
  rw [← hi] at hE
  obtain ⟨r, hr⟩ : ∃ r, r = min n 100 := ⟨_, rfl⟩
  have hr8 : r ≤ 100 := by omega
  have hrn : r ≤ n := by omega
  have hmin : min (n : Int) 100 = (r : Int) := by omega
  have hsl := fun w => sl_firstL p n c r (by omega) w
  have hx : Rb w p r (xs.take r) := by
    refine ⟨by rw [List.length_take, h.len]; omega, fun x hx => h.byte x (List.mem_of_mem_take hx), fun j hj => ?_⟩
    obtain ⟨b, o, e1, e2⟩ := h.cell j (by omega)
    refine ⟨b, o, e1, ?_⟩
    rw [e2, List.getD_eq_getElem?_getD, List.getD_eq_getElem?_getD, List.getElem?_take_of_lt hj]
  have hwi : wrap64 (4 + (i : Int)) = ((4 + i : Nat) : Int) := by unfold wrap64; omega
  have hpl := hp.lt
  have k0 : Kp (fun _ => False) w (w.alloc (.cells #[.int .i64 aid, x1, x2, x3] 81)) := (Kp.refl _ _).alloc _
  have HA : Hid (Lv (w.alloc (.cells #[.int .i64 aid, x1, x2, x3] 81)) w.heap.size [.int .i64 aid, x1, x2, x3]) := Lv.new w _ _
  have HN : Hid (∀ z, Kp (fun _ => False) w z → Calls _ _ _ z _) := fun z k => new_put 3 aid p r c (xs.take r) z (by omega) (hx.keep0 k) (by omega) (ht.keep0 k)
  have HP : Hid (Mf.Pows w ∧ 1 < w.heap.size ∧ r ≤ 100 ∧ i < 3) := ⟨hp, hpl, hr8, hi3⟩
  obtain ⟨ys, hys⟩ : ∃ ys, ys = xs.take r := ⟨_, rfl⟩
  rw [← hys] at HN
  have a0 := HA.out.cell (j := 0) rfl
  clear h hc hn hp ht hx hr hr8 hrn hpl hi3 hi hE0 hE1 hys
  go_enter Tryd.func12, Tryd.ntmps12
  go_wp2_with fail
  refine (HN.out _ k0).mono ?_
  rintro e w1 ⟨cb, wp, wc, rfl, k1, hcb, l1, rb1, hwc, hwp⟩
  have HK1 : Hid (Kp (fun _ => False) w w1 ∧ w.heap.size < cb ∧ Lv w1 cb (callA 3 aid 0 (cmPut 9 r (Crc.sum ys : Nat) 0 0) (.slice none 0 0) false (.slice wp r wc) (.pointer none) (.pointer none)) ∧ Rb w1 wp r ys ∧ (∀ a, wp = some a → a.block ≠ cb) ∧ Lv w1 w.heap.size [.int .i64 aid, x1, x2, x3]) := by
    have hs : (w.alloc (.cells #[.int .i64 aid, x1, x2, x3] 81)).heap.size = w.heap.size + 1 := by simp
    exact ⟨k0.trans k1 (fun _ _ e => e), by omega, l1, rb1, fun a ha => (hwp a ha).2.1, HA.out.keep k1 id⟩
  clear k1 hcb l1 rb1 hwc hwp k0 HN HA a0 hsl hmin
  obtain ⟨ab, hab⟩ : ∃ ab, ab = w.heap.size := ⟨_, rfl⟩
  have HAB : Hid (ab = w.heap.size) := hab
  rw [← hab] at HK1 ⊢
  clear hab
  go_wp2_with fail
  have kb : Kp (fun _ => False) w1 (w1.alloc (.cells #[.int .i64 4, .int .i64 5, .int .i64 6] 3)) := (Kp.refl _ _).alloc _
  have lb : Lv (w1.alloc (.cells #[.int .i64 4, .int .i64 5, .int .i64 6] 3)) w1.heap.size [.int .i64 4, .int .i64 5, .int .i64 6] := Lv.new w1 _ _
  obtain ⟨z, hz⟩ : ∃ z, z = w1.alloc (.cells #[.int .i64 4, .int .i64 5, .int .i64 6] 3) := ⟨_, rfl⟩
  have hz1 : z.heap.size = w1.heap.size + 1 := by rw [hz]; simp
  rw [← hz] at kb lb ⊢
  clear hz
  have hfl : Fl z (fun b => b = w1.heap.size) (some ⟨w1.heap.size, 0, none⟩) (([4, 5, 6] : List Int).map encI) := fun j u hu => by
    have := lb.r j u hu
    rw [Nat.zero_add] at this
    exact ⟨w1.heap.size, 0, rfl, rfl, by rw [Nat.zero_add]; exact this⟩
  obtain ⟨kw1, hcb, l1, rb1, hwp, la1⟩ := HK1.out
  obtain ⟨hp, hpl, hr8, hi3⟩ := HP.out
  have hab := HAB.out
  have kwz := kw1.trans kb (fun _ _ e => e)
  refine (place_ok (K := 2) (M := 1) (l1.keep kb id) (show (0 : Int) < 9 by decide) rfl rfl (rb1.keep0 kb) hwp (by omega) (by decide) (by decide) (pows_keep hp kwz id) (by omega) (some ⟨w1.heap.size, 0, none⟩) 3 [4, 5, 6] _ hfl rfl (by decide) nds456).mono ?_
  rintro e w2 ⟨rfl, k2, q, cq, sp, t, B, l2, st, hq⟩
  have hon := on_refused l2 (show (0 : Int) < 9 by decide) st (len_pos 2 r (by omega) (by omega)).1 (4 + (i : Int)) i (.slice none 0 0) (.int .i64 1) hi3 (by
    rcases i with _ | _ | _ | i <;> first | rfl | omega)
  have la2 : Lv w2 ab [.int .i64 aid, x1, x2, x3] := (la1.keep kb id).keep k2 (fun e => by omega)
  have HON : Hid (Calls _ _ _ w2 _) := hon
  have HK2 : Hid (Kp (fun _ => False) w w2 ∧ w.heap.size < cb ∧ Lv w2 ab [.int .i64 aid, x1, x2, x3] ∧ ab = w.heap.size) := ⟨kwz.trans k2 (fun b hb e => by omega), by omega, la2, hab⟩
  have hmv : (4 : Int) + (i : Int) = ((4 + i : Nat) : Int) := by omega
  have hwi2 : wrap64 (4 + (i : Int)) = 4 + (i : Int) := by rw [hwi]; omega
  clear hon la2 kwz k2 l2 st hq lb hfl kw1 hcb l1 rb1 hwp la1 hp hpl hr8 hab hz1 kb HK1 hmv
  clear hwi
  go_wp2_with fail
  refine HON.out.mono ?_
  rintro e w3 ⟨g, rfl, hg, k3, l3, lg⟩
  have HK3 : Hid (Kp (fun _ => False) w w3 ∧ Lv w3 cb (callA 3 aid 0 (withCode (cmPut 9 r (Crc.sum ys : Nat) 0 0) 2 1) (.slice q 3 cq) true (.slice none 0 0) (.pointer none) (.pointer none)) ∧ Lv w3 g [.int .i64 aid, .int .i64 5, .slice none 0 0] ∧ Lv w3 ab [.int .i64 aid, x1, x2, x3]) := by
    obtain ⟨a1, a2, a3, a4⟩ := HK2.out
    exact ⟨a1.trans k3 (fun b hb e => by omega), l3, lg, a3.keep k3 (fun e => by omega)⟩
  have HCm : Hid (Calls _ _ _ w3 _) := cmd_none _ w3 (fun u k => slot_done cb 9 u ((l3.keep k id).cell (j := 3) rfl) (by decide) ((l3.keep k id).cell (j := 15) rfl))
  have HO : Hid (zeroC.toList.toArray.all (·.oneCell') = true) := zeroC_one
  clear HON HK2 k3 l3 lg hg
  go_wp2_with (first
    | (go_at_call 39; refine HCm.out.mono ?_; rintro e w4 ⟨rfl, k4⟩)
    | (refine wpList_store_all rfl 42 _ _ rfl 12 w4.heap.size zeroC.toList zeroC.toList rfl rfl (by exact Lv.new w4 _ _) szCmd rfl rfl HO.out ?_; intro w5 hl5 k5; have k35 : Kp (fun _ => False) w3 w5 := k4.trans (((Kp.refl (fun _ => False) w4).alloc _).trans k5 (fun b hb e => by omega)) (fun _ _ e => e); have a0 : w5.cell? ⟨ab, 0, none⟩ = some (.int .i64 aid) := (HK3.out.2.2.2.keep k35 id).cell (j := 0) rfl; have HST : Hid (Calls _ _ _ (w5.alloc (.cells #[.int .i64 aid, .int .i64 5, .slice none 0 0] 96)) _) := same_told1 aid 5 none none 0 0 0 0 [] g w5.heap.size 1 1 (w5.alloc (.cells #[.int .i64 aid, .int .i64 5, .slice none 0 0] 96)) ((HK3.out.2.2.1.keep k35 id).keep ((Kp.refl (fun _ => False) w5).alloc _) id) (Lv.new w5 _ _) (Rb.nil _ _) (Rb.nil _ _); have HK5 : Hid (Kp (fun _ => False) w3 (w5.alloc (.cells #[.int .i64 aid, .int .i64 5, .slice none 0 0] 96))) := k35.alloc _; clear hl5 k5)
    | (go_at_call 43; refine HST.out.mono ?_; rintro e w6 ⟨rfl, k6⟩; have HK6 : Hid (Kp (fun _ => False) w3 w6) := HK5.out.trans k6 (fun _ _ e => e); have HD : Hid (Calls _ _ _ w6 _) := cdone cb 9 true w6 ((HK3.out.2.1.keep HK6.out id).cell (j := 3) rfl) (by decide) ((HK3.out.2.1.keep HK6.out id).cell (j := 15) rfl); have HAs : Hid (Calls _ _ _ w6 _) := asks_done cb 9 (.int .i64 1) w6 ((HK3.out.2.1.keep HK6.out id).cell (j := 3) rfl) (by decide) ((HK3.out.2.1.keep HK6.out id).cell (j := 15) rfl))
    | (go_at_call 40; refine HD.out.mono ?_; rintro e w7 ⟨rfl, hw7⟩; obtain rfl := hw7.symm)
    | (go_at_call 41; refine HAs.out.mono ?_; rintro e w7 ⟨rfl, hw7⟩; obtain rfl := hw7.symm))
  go_ret
  exact ⟨rfl, HK3.out.1.trans HK6.out (fun _ _ e => e)⟩
end Go.Proofs.YtmncocmeafcpfaaDoor

/- What the rows' frames share: how bytes come in, as lists that the walks take. -/
namespace Go.Proofs.YtmncocmeafcpfaaDoor
open Go.ChangeShapes Go.WideShapes Go.ChangeAt Go.RowKit

theorem laidOut : laidOutB Tryd.prog = true := by kernel_rfl

theorem sized_bytes {H : Type} {ts : List TypeId} {ds : List (DataW H)} {j : Nat} {elems spare : List (DataW H)} (h : (DataW.weightsEach Tryd.prog ts ds).all (· ≤ reachBytes) = true) (ht : ts[j]? = some 22) (hd : ds[j]? = some (.slice elems spare)) :
    elems.length + spare.length ≤ 140737488355328 := by
  have hr : reachBytes ≤ 140737488355328 := by have := reachBytes_lt; omega
  have b2 : Tryd.prog.bytesOf 5 = 1 := by kernel_rfl
  have := sized_slice h ht hd Tryd.underlying22
  rw [b2] at this; omega

theorem rb_of_trod {H : Type} {enc : TypeId × Value → H} {W : World} {a : Option Addr} {len cap : Nat} {d : DataW H} {p : List MemPlace}
    (h : DataW.Trod enc Tryd.prog W 0 (fun _ => true) true 22 (.slice a len cap) d p)
    (hw : ∀ elems spare, d = .slice elems spare → elems.length + spare.length ≤ 140737488355328) : ∃ xs, Rb W a len xs ∧ len ≤ cap ∧ Hid (len ≤ 140737488355328) := by
  obtain ⟨fuel, hf⟩ := h
  rcases open_ints Tryd.underlying22 Tryd.underlying5 (by kernel_rfl) hf with ⟨hcs, _⟩ | ⟨x, l, c, zs, hcs, hxx, hl, hm, hz, hDx, hcell, hwz⟩
  · simp [Value.cells] at hcs
    obtain ⟨rfl, rfl, rfl⟩ := hcs
    exact ⟨[], Rb.nil _ _, Nat.le_refl _, Nat.zero_le _⟩
  · simp [Value.cells] at hcs
    obtain ⟨rfl, rfl, rfl⟩ := hcs
    have hz' : zs.length = cap := by simpa using hz
    have hd := (Prod.mk.inj hDx).1
    have hlen := hw _ _ hd
    simp only [lits, List.length_map, List.length_take, List.length_drop] at hlen
    refine ⟨(zs.take len).map Int.toNat, ⟨by rw [List.length_map, List.length_take]; omega, fun y hy => ?_, fun j hj => ?_⟩, hl, by show len ≤ _; omega⟩
    · obtain ⟨z, hzm, rfl⟩ := List.mem_map.1 hy
      have := bounds_u8 (hwz z (List.mem_of_mem_take hzm))
      omega
    · obtain ⟨b, off, spot⟩ := x
      have hc := hcell j (by omega)
      have hspot : spot = none := by
        have := World.cell?_spot (hcell 0 (by omega))
        simpa [Addr.add] using this
      subst hspot
      refine ⟨b, off, rfl, ?_⟩
      rw [show (⟨b, off, none⟩ : Addr).add j = ⟨b, off + j, none⟩ from by by_cases e : j = 0 <;> simp [Addr.add, e]] at hc
      rw [hc]
      have hj' : j < zs.length := by omega
      have e : zs.getD j 0 = zs[j] := by rw [List.getD_eq_getElem?_getD, List.getElem?_eq_getElem hj']; rfl
      have := bounds_u8 (hwz zs[j] (List.getElem_mem hj'))
      have e2 : ((zs.take len).map Int.toNat).getD j 0 = zs[j].toNat := by
        rw [List.getD_eq_getElem?_getD, List.getElem?_map, List.getElem?_take_of_lt (by omega), List.getElem?_eq_getElem hj']; rfl
      rw [e, e2, Int.toNat_of_nonneg this.1]
end Go.Proofs.YtmncocmeafcpfaaDoor
