/- The walk of the law ChainClash. -/
import Derived.Test.YtjbgpbafgpdciaaCe
import Derived.Test.YtjbgpbafgpdciaaCt
import Derived.Test.YtjbgpbafgpdciaaCm
import Derived.Test.YtjbgpbafgpdciaaCi
namespace Go.Proofs.Ytjbgpbafgpdciaa
set_option linter.unusedVariables false
open Go.RowKit Go.Deep Go.Maps

set_option maxRecDepth 100000 in
set_option maxHeartbeats 8000000 in
theorem chainClash_walk (a : Int) (x y : Array Value) (w : World) (hx : CmdIn w x) (hy : CmdIn w y) :
    Calls Try.prog 5 #[.int .i64 a, .agg x, .agg y] w fun e w' => e = .returned (.bool true) ∧ Kp (fun _ => False) w w' := by
  obtain ⟨c, zs, nv, hxe, hn⟩ := hx
  obtain ⟨d, ys, mv, hye, hm⟩ := hy
  have h50 := md_eq 1000 a (by omega) (by omega)
  have hl50 := md_lt 1000 a (by omega)
  obtain ⟨z, hz⟩ : ∃ z : Int, z = 1 + (md 1000 a : Int) := ⟨_, rfl⟩
  have hw1 : wrap64 (1 + (md 1000 a : Int)) = z := by unfold wrap64; omega
  have HZ : Hid (1 ≤ z ∧ z ≤ 1000) := by show _ ∧ _; omega
  have HX : Hid (x = cmdA c nv ∧ Ni w (· < w.heap.size) zs nv) := ⟨hxe, hn⟩
  have HY : Hid (y = cmdA d mv ∧ Ni w (· < w.heap.size) ys mv) := ⟨hye, hm⟩
  clear hxe hn hye hm hz hl50
  go_enter Try.func5, Try.ntmps5
  go_wp2_with fail
  obtain ⟨u, hu⟩ : ∃ v, v = (w.alloc (.cells x 34)).alloc (.cells y 34) := ⟨_, rfl⟩
  rw [← hu]
  have z1 : (w.alloc (.cells x 34)).heap.size = w.heap.size + 1 := by simp
  have k0 : Kp (fun _ => False) w u := by rw [hu]; exact ((Kp.refl _ _).alloc _).alloc _
  have HLx : Hid (Lv u w.heap.size x.toList) := by rw [hu]; exact (Lv.new w x _).keep ((Kp.refl (fun _ => False) _).alloc _) id
  have HLy : Hid (Lv u (w.heap.size + 1) y.toList) := by rw [hu, ← z1]; exact Lv.new _ _ _
  have HSz : Hid (u.heap.size = w.heap.size + 2) := by show _ = _; rw [hu]; simp
  clear hu z1
  refine (cnew_ok u).mono ?_
  rintro e w1 ⟨t, m, rfl, k1, ht1, hm1, hch⟩
  have HC1 : Hid (Ch w1 (fun _ => False) t m 0 0 1 (fun _ => none)) := hch
  obtain ⟨g, hg⟩ : ∃ g, g = w.heap.size := ⟨_, rfl⟩
  obtain ⟨g2, hg2⟩ : ∃ g, g = w.heap.size + 1 := ⟨_, rfl⟩
  rw [← hg2] at HLy ⊢
  rw [← hg] at HLx ⊢
  have HG : Hid (w.heap.size ≤ g ∧ g < u.heap.size ∧ w.heap.size ≤ g2 ∧ g2 < u.heap.size ∧ u.heap.size ≤ t ∧ u.heap.size ≤ m ∧ w.heap.size ≤ u.heap.size) := by
    show _ ∧ _
    have := HSz.out
    omega
  have HLx1 : Hid (Lv w1 g x.toList) := HLx.out.keep k1 id
  have HLy1 : Hid (Lv w1 g2 y.toList) := HLy.out.keep k1 id
  have HK1 : Hid (Kp (fun _ => False) w w1) := k0.trans k1 (fun _ _ e => e)
  have HX1 : Hid (x.toList.length = 12 ∧ y.toList.length = 12) := ⟨by rw [HX.out.1]; rfl, by rw [HY.out.1]; rfl⟩
  clear hch k0 k1 hg hg2 ht1 hm1 HLx HLy HSz
  have HE1 : Hid (Calls _ _ _ w1 _) := clearn_new HC1.out z (by have := HZ.out; omega) c zs nv _ (HX.out.2.keep HK1.out (fun _ _ => id)) rfl (by omega)
  rw [← HX.out.1] at HE1
  obtain ⟨dC, hdC1, hdC2⟩ := dsCmd
  have HRx1 : Hid (w1.rangeAt g 0 x.toList) := HLx1.out.r
  go_wp2_with (refine wpList_ldw (by first | rfl | go_simp) 34 _ rfl g 0 rfl x.toList dC HRx1.out hdC1 hdC2 (by rw [szCmd, HX1.out.1]) ?_; rw [Array.toArray_toList])
  refine HE1.out.mono ?_
  rintro e w2 ⟨rfl, k2, mv2, n2, hC2⟩
  clear HE1
  have HC2 : Hid (Ch w2 _ t m 1 1 n2 _) := hC2
  have HK2 : Hid (Kp (fun b => b = t ∨ b = m) w1 w2) := k2
  have HLx2 : Hid (Lv w2 g x.toList) := HLx1.out.keep k2 (by have := HG.out; omega)
  have HLy2 : Hid (Lv w2 g2 y.toList) := HLy1.out.keep k2 (by have := HG.out; omega)
  have HW2 : Hid (Kp (fun _ => False) w w2) := HK1.out.trans k2 (fun b hb e => by have := HG.out; omega)
  have hat : cupd (fun _ => none) z (c, zs, mv2) z = some (c, zs, mv2) := by unfold cupd; rw [if_pos rfl]
  have HE2 : Hid (Calls _ _ _ w2 _) := clearn_old hC2 z (by have := HZ.out; omega) c zs nv _ (HX.out.2.keep HW2.out (fun _ _ => id)) (c, zs, mv2) hat
  rw [← HX.out.1] at HE2
  have HRx2 : Hid (w2.rangeAt g 0 x.toList) := HLx2.out.r
  clear hC2 k2 HRx1
  go_wp2_with (refine wpList_ldw (by first | rfl | go_simp) 34 _ rfl g 0 rfl x.toList dC HRx2.out hdC1 hdC2 (by rw [szCmd, HX1.out.1]) ?_; rw [Array.toArray_toList])
  refine HE2.out.mono ?_
  rintro e w3 ⟨b2, rfl, hb2, k3⟩
  obtain rfl : b2 = true := by simpa using hb2
  clear HE2 hb2
  have HC3 : Hid (Ch w3 _ t m 1 1 n2 _) := HC2.out.keep0 k3
  have HW3 : Hid (Kp (fun _ => False) w w3) := HW2.out.trans k3 (fun _ _ e => e)
  have HLx3 : Hid (Lv w3 g x.toList) := HLx2.out.keep k3 id
  have HLy3 : Hid (Lv w3 g2 y.toList) := HLy2.out.keep k3 id
  have HE3 : Hid (Calls _ _ _ w3 _) := clearn_old HC3.out z (by have := HZ.out; omega) d ys mv _ (HY.out.2.keep HW3.out (fun _ _ => id)) (c, zs, mv2) hat
  rw [← HY.out.1] at HE3
  have HRy3 : Hid (w3.rangeAt g2 0 y.toList) := HLy3.out.r
  clear k3 HRx2
  go_wp2_with (refine wpList_ldw (by first | rfl | go_simp) 34 _ rfl g2 0 rfl y.toList dC HRy3.out hdC1 hdC2 (by rw [szCmd, HX1.out.2]) ?_; rw [Array.toArray_toList])
  refine HE3.out.mono ?_
  rintro e w4 ⟨b, rfl, hb, k4⟩
  have HB : Hid (b = true ↔ c = d ∧ zs = ys) := hb
  clear HE3 hb
  have HC4 : Hid (Ch w4 _ t m 1 1 n2 _) := HC3.out.keep0 k4
  have HW4 : Hid (Kp (fun _ => False) w w4) := HW3.out.trans k4 (fun _ _ e => e)
  have HLx4 : Hid (Lv w4 g x.toList) := HLx3.out.keep k4 id
  have HLy4 : Hid (Lv w4 g2 y.toList) := HLy3.out.keep k4 id
  have HE4 : Hid (Calls _ _ _ w4 _) := cget_ok HC4.out z (by have := HZ.out; omega)
  have hat2 : at0 (cupd (fun _ => none) z (c, zs, mv2)) z = (c, zs, mv2) := by unfold at0; rw [hat]; rfl
  rw [hat, hat2] at HE4
  obtain ⟨en, hen⟩ : ∃ en : Int, en = (if b = true then 0 else 130) := ⟨_, rfl⟩
  have HEn : Hid (en = (if b = true then 0 else 130)) := hen
  rw [← hen]
  clear k4 HRy3 hen
  go_wp2_with fail
  refine HE4.out.mono ?_
  rintro e w5 ⟨v, rfl, k5, nv5, rfl, hni5⟩
  have HN5 : Hid (Ni w5 (fun b => w4.heap.size ≤ b ∧ b < w5.heap.size) zs nv5) := hni5
  have HW5 : Hid (Kp (fun _ => False) w w5) := HW4.out.trans k5 (fun _ _ e => e)
  have HLx5 : Hid (Lv w5 g x.toList) := HLx4.out.keep k5 id
  have HLy5 : Hid (Lv w5 g2 y.toList) := HLy4.out.keep k5 id
  have HO5 : Hid ((cmdA c nv5).toList.toArray.all (·.oneCell') = true) := cmd_one c (by obtain ⟨_, _, e, _⟩ := hni5; rw [e]; rfl)
  obtain ⟨va, hva⟩ : ∃ va : Array Value, va = cmdA c nv5 := ⟨_, rfl⟩
  have HVA : Hid (va = cmdA c nv5) := hva
  rw [← hva] at HO5
  have hva2 : Value.agg (cmdA c nv5) = .agg va := by rw [hva]
  try dsimp only
  rw [hva2]
  clear HE4 hni5 k5 hva hva2 hat hat2
  go_wp2_with (first
    | (refine wpList_store_all rfl 34 _ _ rfl 12 w5.heap.size zeroC.toList va.toList rfl (by rw [Array.toArray_toList]; rfl) (by exact Lv.new w5 _ _) szCmd rfl (by rw [HVA.out]; rfl) HO5.out ?_; intro w6 hl6 k6; have kn6 : Kp (fun _ => False) w5 w6 := ((Kp.refl (fun _ => False) w5).alloc _).trans k6 (fun b hb e => by omega); have HR6 : Hid (w6.rangeAt w5.heap.size 0 va.toList ∧ va.toList.length = 12) := ⟨hl6.r, by rw [HVA.out]; rfl⟩; have HRx6 : Hid (w6.rangeAt g 0 x.toList) := (HLx5.out.keep kn6 id).r; have HLx6 : Hid (Lv w6 g x.toList ∧ Lv w6 g2 y.toList) := ⟨HLx5.out.keep kn6 id, HLy5.out.keep kn6 id⟩; have HN6 : Hid (Ni w6 _ zs nv5) := HN5.out.keep kn6 (fun _ _ => id); have HW6 : Hid (Kp (fun _ => False) w w6) := HW5.out.trans kn6 (fun _ _ e => e); clear hl6 k6 kn6)
    | (refine wpList_ldw (by first | rfl | go_simp) 34 _ rfl w5.heap.size 0 rfl va.toList dC HR6.out.1 hdC1 hdC2 (by rw [szCmd, HR6.out.2]) ?_; rw [Array.toArray_toList])
    | (refine wpList_ldw (by first | rfl | go_simp) 34 _ rfl g 0 rfl x.toList dC HRx6.out hdC1 hdC2 (by rw [szCmd, HX1.out.1]) ?_; rw [Array.toArray_toList]))
  have HE5 : Hid (Calls _ _ _ w6 _) := psame_ok c c _ _ zs zs nv5 nv w6 HN6.out (HX.out.2.keep HW6.out (fun _ _ => id))
  rw [← HX.out.1, ← HVA.out] at HE5
  refine HE5.out.mono ?_
  rintro e w7 ⟨b7, rfl, hb7, k7⟩
  obtain rfl : b7 = true := by simpa using hb7
  have HW7 : Hid (Kp (fun _ => False) w w7) := HW6.out.trans k7 (fun _ _ e => e)
  have HRx7 : Hid (w7.rangeAt g 0 x.toList ∧ w7.rangeAt g2 0 y.toList) := ⟨(HLx6.out.1.keep k7 id).r, (HLx6.out.2.keep k7 id).r⟩
  clear HE5 hb7 k7
  have HE6 : Hid (Calls _ _ _ w7 _) := psame_ok c d _ _ zs ys nv mv w7 (HX.out.2.keep HW7.out (fun _ _ => id)) (HY.out.2.keep HW7.out (fun _ _ => id))
  rw [← HX.out.1, ← HY.out.1] at HE6
  cases b with
  | false =>
    have hen0 : en = 130 := HEn.out
    subst hen0
    go_wp2_with (first
      | (refine wpList_ldw (by first | rfl | go_simp) 34 _ rfl g 0 rfl x.toList dC HRx7.out.1 hdC1 hdC2 (by rw [szCmd, HX1.out.1]) ?_; rw [Array.toArray_toList])
      | (refine wpList_ldw (by first | rfl | go_simp) 34 _ rfl g2 0 rfl y.toList dC HRx7.out.2 hdC1 hdC2 (by rw [szCmd, HX1.out.2]) ?_; rw [Array.toArray_toList]))
    refine HE6.out.mono ?_
    rintro e w8 ⟨b8, rfl, hb8, k8⟩
    obtain rfl : b8 = false := by
      cases b8 with
      | false => rfl
      | true => have := HB.out.2 (hb8.1 rfl); cases this
    clear HE6 hb8
    go_wp2
    go_ret
    exact ⟨rfl, HW7.out.trans k8 (fun _ _ e => e)⟩
  | true =>
    have hen0 : en = 0 := HEn.out
    subst hen0
    go_wp2_with (first
      | (refine wpList_ldw (by first | rfl | go_simp) 34 _ rfl g 0 rfl x.toList dC HRx7.out.1 hdC1 hdC2 (by rw [szCmd, HX1.out.1]) ?_; rw [Array.toArray_toList])
      | (refine wpList_ldw (by first | rfl | go_simp) 34 _ rfl g2 0 rfl y.toList dC HRx7.out.2 hdC1 hdC2 (by rw [szCmd, HX1.out.2]) ?_; rw [Array.toArray_toList]))
    refine HE6.out.mono ?_
    rintro e w8 ⟨b8, rfl, hb8, k8⟩
    obtain rfl : b8 = true := hb8.2 (by simpa using HB.out)
    clear HE6 hb8
    go_wp2
    go_ret
    exact ⟨rfl, HW7.out.trans k8 (fun _ _ e => e)⟩
end Go.Proofs.Ytjbgpbafgpdciaa
