/- The walk of the law CoordRefused (laid by scripts/mkzj.py). -/
import Derived.Test.YtmncocmeafcpfaaDoorZi
import Derived.Test.YtmncocmeafcpfaaDoorZk
import Derived.Test.YtmncocmeafcpfaaDoorYl
import Derived.Test.YtmncocmeafcpfaaDoorLi
namespace Go.Proofs.YtmncocmeafcpfaaDoor
set_option linter.unusedVariables false
set_option linter.unusedSimpArgs false
open Go.RowKit Go.Deep

theorem asks_done (b : Nat) (i : Int) (x : Value) (w : World) (hc : w.cell? ⟨b, 3, none⟩ = some (.int .i64 i)) (hi : 0 < i) (hd : w.cell? ⟨b, 15, none⟩ = some (.bool true)) : Calls Tryd.prog 41 #[.pointer (some ⟨b, 0, none⟩), x] w fun e w' => e = .returned (.slice none 0 0) ∧ w' = w := by
  have H : Hid (Calls Tryd.prog 75 #[.pointer (some ⟨b, 0, none⟩)] w fun e w' => e = .returned (.bool false) ∧ w' = w) := copen b i true w hc hi hd
  clear hc hi hd
  go_enter Tryd.func41, Tryd.ntmps41
  go_wp2_with (go_at_call 75; refine H.out.mono ?_; rintro e w1 ⟨rfl, hw1⟩; subst hw1)
  go_ret
  exact ⟨rfl, rfl⟩
theorem nds456 : Nds [4, 5, 6] := ⟨by decide, fun i j hi hj h => by
  have h1 : i < 3 := hi
  have h2 : j < 3 := hj
  rcases i with _ | _ | _ | i <;> rcases j with _ | _ | _ | j <;> first | omega | simp⟩

set_option maxRecDepth 100000 in
set_option maxHeartbeats 6400000 in
theorem coordRefused_walk (p : Option Addr) (n c : Nat) (xs : List Nat) (iv : Int) (ca : Array Value) (w : World) (h : Rb w p n xs) (hc : n ≤ c) (hn : Hid (n ≤ 140737488355328)) (_h : (Lit.int .i64 iv).wf = true) (ha : AskIn ca) (hp : Mf.Pows w) (ht : Turns w) :
    Calls Tryd.prog 12 #[.slice p n c, .int .i64 iv, .agg ca] w fun e w' => e = .returned (.bool true) ∧ Kp (fun _ => False) w w' := by
  clear _h
  obtain ⟨aid, x1, x2, x3, rfl⟩ := ha
  obtain ⟨E, hE, hE0, hE1⟩ := mdE 3 iv (by omega) (by omega)
  obtain ⟨i, hi⟩ : ∃ i : Nat, (i : Int) = E := ⟨E.toNat, by omega⟩
  have hi3 : i < 3 := by omega
  rw [← hi] at hE
  obtain ⟨r, hr⟩ : ∃ r, r = min n 100 := ⟨_, rfl⟩
  have hr8 : r ≤ 100 := by omega
  have hrn : r ≤ n := by omega
  have hmin : min (n : Int) 100 = (r : Int) := by omega
  have hsl := fun w => sl_firstL p n c r (by omega) w
  have hx : Rb w p r (xs.take r) := by
    refine ⟨by rw [List.length_take, h.len]; omega, fun x hx => h.byte x (List.mem_of_mem_take hx), fun j hj => ?_⟩
    obtain ⟨b, o, e1, e2⟩ := h.cell j (by omega)
    refine ⟨b, o, e1, ?_⟩
    rw [e2, List.getD_eq_getElem?_getD, List.getD_eq_getElem?_getD, List.getElem?_take_of_lt hj]
  have hwi : wrap64 (4 + (i : Int)) = ((4 + i : Nat) : Int) := by unfold wrap64; omega
  have hpl := hp.lt
  have k0 : Kp (fun _ => False) w (w.alloc (.cells #[.int .i64 aid, x1, x2, x3] 81)) := (Kp.refl _ _).alloc _
  have HA : Hid (Lv (w.alloc (.cells #[.int .i64 aid, x1, x2, x3] 81)) w.heap.size [.int .i64 aid, x1, x2, x3]) := Lv.new w _ _
  have HN : Hid (∀ z, Kp (fun _ => False) w z → Calls _ _ _ z _) := fun z k => new_put 3 aid p r c (xs.take r) z (by omega) (hx.keep0 k) (by omega) (ht.keep0 k)
  have HP : Hid (Mf.Pows w ∧ 1 < w.heap.size ∧ r ≤ 100 ∧ i < 3) := ⟨hp, hpl, hr8, hi3⟩
  obtain ⟨ys, hys⟩ : ∃ ys, ys = xs.take r := ⟨_, rfl⟩
  rw [← hys] at HN
  have a0 := HA.out.cell (j := 0) rfl
  clear h hc hn hp ht hx hr hr8 hrn hpl hi3 hi hE0 hE1 hys
  go_enter Tryd.func12, Tryd.ntmps12
  go_wp2_with fail
  refine (HN.out _ k0).mono ?_
  rintro e w1 ⟨cb, wp, wc, rfl, k1, hcb, l1, rb1, hwc, hwp⟩
  have HK1 : Hid (Kp (fun _ => False) w w1 ∧ w.heap.size < cb ∧ Lv w1 cb (callA 3 aid 0 (cmPut 9 r (Crc.sum ys : Nat) 0 0) (.slice none 0 0) false (.slice wp r wc) (.pointer none) (.pointer none)) ∧ Rb w1 wp r ys ∧ (∀ a, wp = some a → a.block ≠ cb) ∧ Lv w1 w.heap.size [.int .i64 aid, x1, x2, x3]) := by
    have hs : (w.alloc (.cells #[.int .i64 aid, x1, x2, x3] 81)).heap.size = w.heap.size + 1 := by simp
    exact ⟨k0.trans k1 (fun _ _ e => e), by omega, l1, rb1, fun a ha => (hwp a ha).2.1, HA.out.keep k1 id⟩
  clear k1 hcb l1 rb1 hwc hwp k0 HN HA a0 hsl hmin
  obtain ⟨ab, hab⟩ : ∃ ab, ab = w.heap.size := ⟨_, rfl⟩
  have HAB : Hid (ab = w.heap.size) := hab
  rw [← hab] at HK1 ⊢
  clear hab
  go_wp2_with fail
  have kb : Kp (fun _ => False) w1 (w1.alloc (.cells #[.int .i64 4, .int .i64 5, .int .i64 6] 3)) := (Kp.refl _ _).alloc _
  have lb : Lv (w1.alloc (.cells #[.int .i64 4, .int .i64 5, .int .i64 6] 3)) w1.heap.size [.int .i64 4, .int .i64 5, .int .i64 6] := Lv.new w1 _ _
  obtain ⟨z, hz⟩ : ∃ z, z = w1.alloc (.cells #[.int .i64 4, .int .i64 5, .int .i64 6] 3) := ⟨_, rfl⟩
  have hz1 : z.heap.size = w1.heap.size + 1 := by rw [hz]; simp
  rw [← hz] at kb lb ⊢
  clear hz
  have hfl : Fl z (fun b => b = w1.heap.size) (some ⟨w1.heap.size, 0, none⟩) (([4, 5, 6] : List Int).map encI) := fun j u hu => by
    have := lb.r j u hu
    rw [Nat.zero_add] at this
    exact ⟨w1.heap.size, 0, rfl, rfl, by rw [Nat.zero_add]; exact this⟩
  obtain ⟨kw1, hcb, l1, rb1, hwp, la1⟩ := HK1.out
  obtain ⟨hp, hpl, hr8, hi3⟩ := HP.out
  have hab := HAB.out
  have kwz := kw1.trans kb (fun _ _ e => e)
  refine (place_ok (K := 2) (M := 1) (l1.keep kb id) (show (0 : Int) < 9 by decide) rfl rfl (rb1.keep0 kb) hwp (by omega) (by decide) (by decide) (pows_keep hp kwz id) (by omega) (some ⟨w1.heap.size, 0, none⟩) 3 [4, 5, 6] _ hfl rfl (by decide) nds456).mono ?_
  rintro e w2 ⟨rfl, k2, q, cq, sp, t, B, l2, st, hq⟩
  have hon := on_refused l2 (show (0 : Int) < 9 by decide) st (len_pos 2 r (by omega) (by omega)).1 (4 + (i : Int)) i (.slice none 0 0) (.int .i64 1) hi3 (by
    rcases i with _ | _ | _ | i <;> first | rfl | omega)
  have la2 : Lv w2 ab [.int .i64 aid, x1, x2, x3] := (la1.keep kb id).keep k2 (fun e => by omega)
  have HON : Hid (Calls _ _ _ w2 _) := hon
  have HK2 : Hid (Kp (fun _ => False) w w2 ∧ w.heap.size < cb ∧ Lv w2 ab [.int .i64 aid, x1, x2, x3] ∧ ab = w.heap.size) := ⟨kwz.trans k2 (fun b hb e => by omega), by omega, la2, hab⟩
  have hmv : (4 : Int) + (i : Int) = ((4 + i : Nat) : Int) := by omega
  have hwi2 : wrap64 (4 + (i : Int)) = 4 + (i : Int) := by rw [hwi]; omega
  clear hon la2 kwz k2 l2 st hq lb hfl kw1 hcb l1 rb1 hwp la1 hp hpl hr8 hab hz1 kb HK1 hmv
  clear hwi
  go_wp2_with fail
  refine HON.out.mono ?_
  rintro e w3 ⟨g, rfl, hg, k3, l3, lg⟩
  have HK3 : Hid (Kp (fun _ => False) w w3 ∧ Lv w3 cb (callA 3 aid 0 (withCode (cmPut 9 r (Crc.sum ys : Nat) 0 0) 2 1) (.slice q 3 cq) true (.slice none 0 0) (.pointer none) (.pointer none)) ∧ Lv w3 g [.int .i64 aid, .int .i64 5, .slice none 0 0] ∧ Lv w3 ab [.int .i64 aid, x1, x2, x3]) := by
    obtain ⟨a1, a2, a3, a4⟩ := HK2.out
    exact ⟨a1.trans k3 (fun b hb e => by omega), l3, lg, a3.keep k3 (fun e => by omega)⟩
  have HCm : Hid (Calls _ _ _ w3 _) := cmd_none _ w3 (fun u k => slot_done cb 9 u ((l3.keep k id).cell (j := 3) rfl) (by decide) ((l3.keep k id).cell (j := 15) rfl))
  have HO : Hid (zeroC.toList.toArray.all (·.oneCell') = true) := zeroC_one
  clear HON HK2 k3 l3 lg hg
  go_wp2_with (first
    | (go_at_call 39; refine HCm.out.mono ?_; rintro e w4 ⟨rfl, k4⟩)
    | (refine wpList_store_all rfl 42 _ _ rfl 12 w4.heap.size zeroC.toList zeroC.toList rfl rfl (by exact Lv.new w4 _ _) szCmd rfl rfl HO.out ?_; intro w5 hl5 k5; have k35 : Kp (fun _ => False) w3 w5 := k4.trans (((Kp.refl (fun _ => False) w4).alloc _).trans k5 (fun b hb e => by omega)) (fun _ _ e => e); have a0 : w5.cell? ⟨ab, 0, none⟩ = some (.int .i64 aid) := (HK3.out.2.2.2.keep k35 id).cell (j := 0) rfl; have HST : Hid (Calls _ _ _ (w5.alloc (.cells #[.int .i64 aid, .int .i64 5, .slice none 0 0] 96)) _) := same_told1 aid 5 none none 0 0 0 0 [] g w5.heap.size 1 1 (w5.alloc (.cells #[.int .i64 aid, .int .i64 5, .slice none 0 0] 96)) ((HK3.out.2.2.1.keep k35 id).keep ((Kp.refl (fun _ => False) w5).alloc _) id) (Lv.new w5 _ _) (Rb.nil _ _) (Rb.nil _ _); have HK5 : Hid (Kp (fun _ => False) w3 (w5.alloc (.cells #[.int .i64 aid, .int .i64 5, .slice none 0 0] 96))) := k35.alloc _; clear hl5 k5)
    | (go_at_call 43; refine HST.out.mono ?_; rintro e w6 ⟨rfl, k6⟩; have HK6 : Hid (Kp (fun _ => False) w3 w6) := HK5.out.trans k6 (fun _ _ e => e); have HD : Hid (Calls _ _ _ w6 _) := cdone cb 9 true w6 ((HK3.out.2.1.keep HK6.out id).cell (j := 3) rfl) (by decide) ((HK3.out.2.1.keep HK6.out id).cell (j := 15) rfl); have HAs : Hid (Calls _ _ _ w6 _) := asks_done cb 9 (.int .i64 1) w6 ((HK3.out.2.1.keep HK6.out id).cell (j := 3) rfl) (by decide) ((HK3.out.2.1.keep HK6.out id).cell (j := 15) rfl))
    | (go_at_call 40; refine HD.out.mono ?_; rintro e w7 ⟨rfl, hw7⟩; obtain rfl := hw7.symm)
    | (go_at_call 41; refine HAs.out.mono ?_; rintro e w7 ⟨rfl, hw7⟩; obtain rfl := hw7.symm))
  go_ret
  exact ⟨rfl, HK3.out.1.trans HK6.out (fun _ _ e => e)⟩
end Go.Proofs.YtmncocmeafcpfaaDoor
