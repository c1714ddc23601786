/- The best order (laid by scripts/mkum.py). -/
import Derived.Test.YtbbgplnenbkfeaaUl
namespace Go.Proofs.Ytbbgplnenbkfeaa
set_option linter.unusedVariables false
set_option linter.unusedSimpArgs false
open Go.RowKit Go.Deep Go.Maps

def ordS (le : Int × Int) (c : Hc) : Int × Int := if readsP c then (min le.1 c.to, max le.2 c.fr) else if c.says == 2 then (min le.1 c.to, le.2) else le
def ord0 (cs : List Hc) (pt er : Nat) : Int × Int := ((cs.getD pt hc0).to, max (cs.getD pt hc0).fr (cs.getD er hc0).fr)
def ordF (cs : List Hc) (pt er : Nat) : Int × Int := cs.foldl ordS (ord0 cs pt er)
/-- when the bytes are erased, and written -/
def erasedP (cs : List Hc) (pt er : Nat) : Int := (ordF cs pt er).2 + 1
def writtenP (cs : List Hc) (pt er : Nat) : Int := min (ordF cs pt er).1 (erasedP cs pt er)
theorem ordS_fst (l e : Int) (c : Hc) : (ordS (l, e) c) = (if readsP c || c.says == 2 then min l c.to else l, if readsP c then max e c.fr else e) := by
  unfold ordS
  cases readsP c <;> cases (c.says == 2) <;> rfl

set_option maxRecDepth 100000 in
set_option maxHeartbeats 6400000 in
theorem order_ok (Z : Nat → Prop) (b o n cap : Nat) (cs : List Hc) (w : World) (h : Fl w Z (some ⟨b, o, none⟩) (hflat cs)) (hok : ∀ c ∈ cs, c.ok w) (hn : cs.length = n) (hn9 : n ≤ 1000) (pt er : Nat) (hp : pt < n) (he : er < n) :
    Calls Try.prog 32 #[.slice (some ⟨b, o, none⟩) n cap, .int .i64 (pt : Int), .int .i64 (er : Int)] w fun e w' => ∃ bc bp bw be br, e = .returned (.func (.func 40) #[] #[.pointer (some ⟨bc, 0, none⟩), .pointer (some ⟨bp, 0, none⟩), .pointer (some ⟨bw, 0, none⟩), .pointer (some ⟨be, 0, none⟩), .pointer (some ⟨br, 0, none⟩)]) ∧ Kp (fun _ => False) w w' ∧
      w'.cell? ⟨bc, 0, none⟩ = some (.slice (some ⟨b, o, none⟩) n cap) ∧ w'.cell? ⟨bp, 0, none⟩ = some (.int .i64 (pt : Int)) ∧ w'.cell? ⟨bw, 0, none⟩ = some (.int .i64 (writtenP cs pt er)) ∧ w'.cell? ⟨be, 0, none⟩ = some (.int .i64 (er : Int)) ∧ w'.cell? ⟨br, 0, none⟩ = some (.int .i64 (erasedP cs pt er)) := by
  obtain ⟨pc, hpc⟩ : ∃ pc, pc = cs.getD pt hc0 := ⟨_, rfl⟩
  have hpg : cs[pt]? = some pc := by rw [hpc, List.getD_eq_getElem?_getD, List.getElem?_eq_getElem (show pt < cs.length by omega)]; rfl
  obtain ⟨ec, hec⟩ : ∃ ec, ec = cs.getD er hc0 := ⟨_, rfl⟩
  have heg : cs[er]? = some ec := by rw [hec, List.getD_eq_getElem?_getD, List.getElem?_eq_getElem (show er < cs.length by omega)]; rfl
  have HPok : Hid (pc.ok w) := hok pc (List.mem_of_getElem? hpg)
  have HEok : Hid (ec.ok w) := hok ec (List.mem_of_getElem? heg)
  have H0 : Hid (ord0 cs pt er = (pc.to, max pc.fr ec.fr)) := by show _ = _; unfold ord0; rw [← hpc, ← hec]
  have cl : ∀ (k j : Nat) (c : Hc) (v : Value), cs[k]? = some c → (hcell c)[j]? = some v → w.cell? ⟨b, o + k * 10 + j, none⟩ = some v := fun k j c v hk hv => by
    obtain ⟨b', o', e, _, h2⟩ := h (k * 10 + j) v (hflat_get cs k j c v hk hv)
    cases e
    rwa [Nat.add_assoc]
  have HCl : Hid (w.cell? ⟨b, o + pt * 10 + 6, none⟩ = some (.int .i64 pc.to) ∧ w.cell? ⟨b, o + pt * 10 + 5, none⟩ = some (.int .i64 pc.fr) ∧ w.cell? ⟨b, o + er * 10 + 5, none⟩ = some (.int .i64 ec.fr)) := ⟨cl pt 6 pc _ hpg rfl, cl pt 5 pc _ hpg rfl, cl er 5 ec _ heg rfl⟩
  have HF : Hid (Fl w Z (some ⟨b, o, none⟩) (hflat cs)) := h
  have HC : Hid (∀ c ∈ cs, c.ok w) := hok
  have HN : Hid (cs.length = n ∧ n ≤ 1000) := ⟨hn, hn9⟩
  have hn8 : (n : Int) ≤ 1000 := by omega
  have hp9 : (pt : Int) < (n : Int) := by omega
  have he9 : (er : Int) < (n : Int) := by omega
  obtain ⟨wt, hwt⟩ : ∃ wt, wt = writtenP cs pt er := ⟨_, rfl⟩
  obtain ⟨et, het⟩ : ∃ et, et = erasedP cs pt er := ⟨_, rfl⟩
  have HWE : Hid (wt = writtenP cs pt er ∧ et = erasedP cs pt er) := ⟨hwt, het⟩
  rw [← hwt, ← het]
  clear hpc hpg hec heg cl h hok hn hn9 hp he hwt het
  -- the boxes
  obtain ⟨w1, hw1⟩ : ∃ x, x = w.alloc (.cells #[.slice (some ⟨b, o, none⟩) n cap] 41) := ⟨_, rfl⟩
  obtain ⟨w2, hw2⟩ : ∃ x, x = w1.alloc (.cells #[.int .i64 (pt : Int)] 3) := ⟨_, rfl⟩
  obtain ⟨w3, hw3⟩ : ∃ x, x = w2.alloc (.cells #[.int .i64 (er : Int)] 3) := ⟨_, rfl⟩
  have k1 : Kp (fun _ => False) w w1 := by rw [hw1]; exact (Kp.refl _ _).alloc _
  have k2 : Kp (fun _ => False) w1 w2 := by rw [hw2]; exact (Kp.refl _ _).alloc _
  have k3 : Kp (fun _ => False) w2 w3 := by rw [hw3]; exact (Kp.refl _ _).alloc _
  have l1 : Lv w1 w.heap.size [.slice (some ⟨b, o, none⟩) n cap] := by rw [hw1]; exact Lv.new w _ _
  have l2 : Lv w2 w1.heap.size [.int .i64 (pt : Int)] := by rw [hw2]; exact Lv.new w1 _ _
  have l3 : Lv w3 w2.heap.size [.int .i64 (er : Int)] := by rw [hw3]; exact Lv.new w2 _ _
  have z1 : w1.heap.size = w.heap.size + 1 := by rw [hw1]; simp
  have z2 : w2.heap.size = w.heap.size + 2 := by rw [hw2]; simp; omega
  have HK3 : Hid (Kp (fun _ => False) w w3) := (k1.trans k2 (fun _ _ e => e)).trans k3 (fun _ _ e => e)
  have HS : Hid (∀ u, Kp (fun _ => False) w3 u → u.cell? ⟨w.heap.size, 0, none⟩ = some (.slice (some ⟨b, o, none⟩) n cap) ∧ u.cell? ⟨w.heap.size + 1, 0, none⟩ = some (.int .i64 (pt : Int)) ∧ u.cell? ⟨w.heap.size + 2, 0, none⟩ = some (.int .i64 (er : Int))) := fun u ku => by
    rw [← z2, ← z1]
    exact ⟨(((l1.keep k2 id).keep k3 id).keep ku id).cell (j := 0) rfl, ((l2.keep k3 id).keep ku id).cell (j := 0) rfl, (l3.keep ku id).cell (j := 0) rfl⟩
  rw [hw1] at hw2
  rw [hw2] at hw3
  clear k1 k2 k3 l1 l2 l3 z1 z2 hw1 hw2
  go_enter Try.func32, Try.ntmps32
  go_wp2_with fail
  have e3 := hw3.symm
  rw [e3]
  clear e3 hw3
  have kd : Kp (fun _ => False) w3 w3.drew := (Kp.refl _ _).drew
  have hs := HS.out _ kd
  have kk := HK3.out.trans kd (fun _ _ e => e)
  refine or1_region ⟨by kernel_rfl, by kernel_rfl, by kernel_rfl, by kernel_rfl, by kernel_rfl, by kernel_rfl, by kernel_rfl, by kernel_rfl, by kernel_rfl, by kernel_rfl, by kernel_rfl, by kernel_rfl, by kernel_rfl, by kernel_rfl, by kernel_rfl, by kernel_rfl, by kernel_rfl, by kernel_rfl, by kernel_rfl, by kernel_rfl, by kernel_rfl, by kernel_rfl⟩ w.heap.size (w.heap.size + 1) (w.heap.size + 2) b o n cap pt er hp9 he9 pc.to pc.fr ec.fr (fun d _ _ _ _ h => by cases d <;> exact h) (by rfl) (by rfl) (by rfl) (by rfl) ⟨hs.1, hs.2.1, hs.2.2, kk.cellv HCl.out.1 id, kk.cellv HCl.out.2.1 id, kk.cellv HCl.out.2.2 id⟩ ?_
  simp only [Act.put, List.setIfInBounds_toArray, List.set_cons_succ, List.set_cons_zero]
  obtain ⟨w4, hw4⟩ : ∃ x, x = w3.drew := ⟨_, rfl⟩
  rw [← hw4] at hs kd ⊢
  have HK4 : Hid (Kp (fun _ => False) w w4) := by rw [hw4]; exact kk
  have HK34 : Hid (Kp (fun _ => False) w3 w4) := kd
  obtain ⟨q1, q2, q3⟩ := hs
  obtain ⟨m0, hm0⟩ : ∃ m0, m0 = max pc.fr ec.fr := ⟨_, rfl⟩
  rw [← hm0] at H0 ⊢
  have HM0 : Hid (0 ≤ m0 ∧ m0 ≤ 1000) := by
    have h1 := HPok.out.f
    have h2 := HEok.out.f
    show _ ∧ _
    omega
  clear hw4 kk kd HCl hm0
  go_wp2
  go_loopg [7, 8, 31] n (fun gk lv ev iv wr => ∃ (k : Nat) (l e : Int), k ≤ n ∧ gk = n - k ∧ iv = .int .i64 k ∧ lv = .int .i64 l ∧ ev = .int .i64 e ∧ Hid (Kp (fun _ => False) w4 wr) ∧ Hid ((cs.take k).foldl ordS (ord0 cs pt er) = (l, e)) ∧ Hid (0 ≤ e ∧ e ≤ 1000))
  case atStart => exact ⟨0, pc.to, m0, Nat.zero_le _, rfl, rfl, rfl, rfl, Kp.refl _ _, H0.out, HM0.out⟩
  case round =>
    obtain ⟨k, l, e, hk, rfl, rfl, rfl, rfl, HK, HFo, HEb⟩ := hrel
    by_cases hlt : (k : Int) < (n : Int)
    · have hkl : k < cs.length := by have := HN.out; omega
      obtain ⟨b1, o1, e0, _, r1⟩ := fl_h (HF.out.keep (HK4.out.trans HK.out (fun _ _ e => e)) (fun _ _ => id)) hkl
      cases e0
      obtain ⟨c, hee⟩ : ∃ c, c = cs[k] := ⟨_, rfl⟩
      rw [← hee] at r1
      have hek : c.ok w := by rw [hee]; exact HC.out _ (List.getElem_mem hkl)
      have HEK : Hid (c.ok w) := hek
      have HR1 : Hid (wr.rangeAt b (o + k * 10) (hcell c)) := r1
      have HO1 : Hid ((hcell c).toArray.all (·.oneCell') = true) := hc_one c hek.e.b.one hek.g.one
      have HFn : Hid ((cs.take (k + 1)).foldl ordS (ord0 cs pt er) = ordS (l, e) c) := by
        show _ = _
        rw [List.take_succ_eq_append_getElem hkl, List.foldl_append, HFo.out, ← hee]; rfl
      have HRB : Hid (∀ u, Calls Try.prog 31 #[.agg (hcell c).toArray] u fun e w' => e = .returned (.bool (readsP c)) ∧ Kp (fun _ => False) u w') := fun u => readsB_ok c u
      have HK1' : Hid (wrap64 ((k : Int) + 1) = ((k + 1 : Nat) : Int)) := wrapK (by have := HN.out; omega)
      obtain ⟨d, hd1, hd2⟩ := dsHc
      rw [ordS_fst] at HFn
      obtain ⟨RP, hRP⟩ : ∃ RP, RP = readsP c := ⟨_, rfl⟩
      obtain ⟨xs, hxs⟩ : ∃ xs, xs = hcell c := ⟨_, rfl⟩
      obtain ⟨fr, hfr⟩ : ∃ fr, fr = c.fr := ⟨_, rfl⟩
      obtain ⟨tt, htt⟩ : ∃ tt, tt = c.to := ⟨_, rfl⟩
      obtain ⟨sy, hsy⟩ : ∃ sy, sy = c.says := ⟨_, rfl⟩
      have HXL : Hid (xs.length = 10 ∧ xs[5]? = some (.int .i64 fr) ∧ xs[6]? = some (.int .i64 tt) ∧ xs[8]? = some (.int .i64 sy)) := ⟨by rw [hxs]; rfl, by rw [hxs, hfr]; rfl, by rw [hxs, htt]; rfl, by rw [hxs, hsy]; rfl⟩
      have HFb : Hid (0 ≤ fr ∧ fr ≤ 1000) := by rw [hfr]; exact hek.f
      rw [← hRP] at HRB HFn
      rw [← hfr, ← htt, ← hsy] at HFn
      rw [← hxs] at HR1 HO1 HRB
      clear r1 hek hee hkl hRP hxs hfr htt hsy HFo
      cases RP with
      | true =>
        go_wp2_with (first | (refine wpList_load_mid rfl 65 _ rfl b (o + k * 10) rfl xs d HR1.out hd1 hd2 (by rw [szHc, HXL.out.1]) ?_) | (refine wpList_store_all rfl 65 _ _ rfl 10 wr.heap.size (hcell hc0) xs rfl rfl (by exact Lv.new wr _ _) szHc rfl HXL.out.1 HO1.out ?_; intro u1 hl1 k1; have HKu : Hid (Kp (fun _ => False) wr u1) := ((Kp.refl (fun _ => False) wr).alloc _).trans k1 (fun b hb e => by omega); have HLu : Hid (Lv u1 wr.heap.size xs) := hl1; have c5u : u1.cell? ⟨wr.heap.size, 5, none⟩ = some (.int .i64 fr) := hl1.cell (j := 5) HXL.out.2.1; have c6u : u1.cell? ⟨wr.heap.size, 6, none⟩ = some (.int .i64 tt) := hl1.cell (j := 6) HXL.out.2.2.1; have c8u : u1.cell? ⟨wr.heap.size, 8, none⟩ = some (.int .i64 sy) := hl1.cell (j := 8) HXL.out.2.2.2; clear hl1 k1) | (refine wpList_load_all rfl 65 _ rfl 10 wr.heap.size xs rfl HLu.out dsHc szHc HXL.out.1 ?_) | (go_at_call 31; refine (HRB.out _).mono ?_; rintro e9 w9 ⟨rfl, k9⟩; have c5 := k9.cellv c5u id; have c6 := k9.cellv c6u id; have c8 := k9.cellv c8u id; have HK9 : Hid (Kp (fun _ => False) w4 w9) := (HK.out.trans HKu.out (fun _ _ e => e)).trans k9 (fun _ _ e => e); clear k9))
        go_roundg (n - (k + 1))
        case rel => exact ⟨k + 1, min l tt, max e fr, by omega, rfl, by first | rw [HK1'.out] | rfl | go_num, rfl, rfl, HK9, HFn, by have := HEb.out; have := HFb.out; show _ ∧ _; omega⟩
        case measure => omega
      | false =>
        by_cases e2 : sy = 2
        · have e2' : (sy == 2) = true := by simpa using e2
          rw [e2'] at HFn
          clear e2
          go_wp2_with (first | (refine wpList_load_mid rfl 65 _ rfl b (o + k * 10) rfl xs d HR1.out hd1 hd2 (by rw [szHc, HXL.out.1]) ?_) | (refine wpList_store_all rfl 65 _ _ rfl 10 wr.heap.size (hcell hc0) xs rfl rfl (by exact Lv.new wr _ _) szHc rfl HXL.out.1 HO1.out ?_; intro u1 hl1 k1; have HKu : Hid (Kp (fun _ => False) wr u1) := ((Kp.refl (fun _ => False) wr).alloc _).trans k1 (fun b hb e => by omega); have HLu : Hid (Lv u1 wr.heap.size xs) := hl1; have c5u : u1.cell? ⟨wr.heap.size, 5, none⟩ = some (.int .i64 fr) := hl1.cell (j := 5) HXL.out.2.1; have c6u : u1.cell? ⟨wr.heap.size, 6, none⟩ = some (.int .i64 tt) := hl1.cell (j := 6) HXL.out.2.2.1; have c8u : u1.cell? ⟨wr.heap.size, 8, none⟩ = some (.int .i64 sy) := hl1.cell (j := 8) HXL.out.2.2.2; clear hl1 k1) | (refine wpList_load_all rfl 65 _ rfl 10 wr.heap.size xs rfl HLu.out dsHc szHc HXL.out.1 ?_) | (go_at_call 31; refine (HRB.out _).mono ?_; rintro e9 w9 ⟨rfl, k9⟩; have c5 := k9.cellv c5u id; have c6 := k9.cellv c6u id; have c8 := k9.cellv c8u id; have HK9 : Hid (Kp (fun _ => False) w4 w9) := (HK.out.trans HKu.out (fun _ _ e => e)).trans k9 (fun _ _ e => e); clear k9))
          go_roundg (n - (k + 1))
          case rel => exact ⟨k + 1, min l tt, e, by omega, rfl, by first | rw [HK1'.out] | rfl | go_num, rfl, rfl, HK9, HFn, HEb⟩
          case measure => omega
        · have e2' : (sy == 2) = false := by simpa using e2
          rw [e2'] at HFn
          clear e2
          go_wp2_with (first | (refine wpList_load_mid rfl 65 _ rfl b (o + k * 10) rfl xs d HR1.out hd1 hd2 (by rw [szHc, HXL.out.1]) ?_) | (refine wpList_store_all rfl 65 _ _ rfl 10 wr.heap.size (hcell hc0) xs rfl rfl (by exact Lv.new wr _ _) szHc rfl HXL.out.1 HO1.out ?_; intro u1 hl1 k1; have HKu : Hid (Kp (fun _ => False) wr u1) := ((Kp.refl (fun _ => False) wr).alloc _).trans k1 (fun b hb e => by omega); have HLu : Hid (Lv u1 wr.heap.size xs) := hl1; have c5u : u1.cell? ⟨wr.heap.size, 5, none⟩ = some (.int .i64 fr) := hl1.cell (j := 5) HXL.out.2.1; have c6u : u1.cell? ⟨wr.heap.size, 6, none⟩ = some (.int .i64 tt) := hl1.cell (j := 6) HXL.out.2.2.1; have c8u : u1.cell? ⟨wr.heap.size, 8, none⟩ = some (.int .i64 sy) := hl1.cell (j := 8) HXL.out.2.2.2; clear hl1 k1) | (refine wpList_load_all rfl 65 _ rfl 10 wr.heap.size xs rfl HLu.out dsHc szHc HXL.out.1 ?_) | (go_at_call 31; refine (HRB.out _).mono ?_; rintro e9 w9 ⟨rfl, k9⟩; have c5 := k9.cellv c5u id; have c6 := k9.cellv c6u id; have c8 := k9.cellv c8u id; have HK9 : Hid (Kp (fun _ => False) w4 w9) := (HK.out.trans HKu.out (fun _ _ e => e)).trans k9 (fun _ _ e => e); clear k9))
          go_roundg (n - (k + 1))
          case rel => exact ⟨k + 1, l, e, by omega, rfl, by first | rw [HK1'.out] | rfl | go_num, rfl, rfl, HK9, HFn, HEb⟩
          case measure => omega
    · have HFe : Hid (et = e + 1 ∧ wt = min l (e + 1)) := by
        have h1 : ordF cs pt er = (l, e) := by
          unfold ordF
          rw [← HFo.out, List.take_of_length_le (by have := HN.out; omega)]
        have h2 := HWE.out
        refine ⟨?_, ?_⟩
        · rw [h2.2]; unfold erasedP; rw [h1]
        · rw [h2.1]; unfold writtenP erasedP; rw [h1]
      obtain ⟨hf1, hf2⟩ := HFe.out
      have HE1 : Hid (wrap64 (e + 1) = e + 1) := by show _ = _; have := HEb.out; unfold wrap64; omega
      have he1 := HE1.out
      have hb := HEb.out
      subst hf1 hf2
      clear HFe HWE HFo
      go_wp2
      go_ret
      have la := Lv.new wr #[.int .i64 (e + 1)] 3
      have ka : Kp (fun _ => False) wr (wr.alloc (.cells #[.int .i64 (e + 1)] 3)) := (Kp.refl _ _).alloc _
      obtain ⟨v1, hv1⟩ : ∃ x, x = wr.alloc (.cells #[.int .i64 (e + 1)] 3) := ⟨_, rfl⟩
      rw [← hv1] at la ka ⊢
      have z1 : v1.heap.size = wr.heap.size + 1 := by rw [hv1]; simp
      have lb := Lv.new v1 #[.int .i64 (min l (e + 1))] 3
      have kb : Kp (fun _ => False) v1 (v1.alloc (.cells #[.int .i64 (min l (e + 1))] 3)) := (Kp.refl _ _).alloc _
      have kab := ka.trans kb (fun _ _ e => e)
      have hs := HS.out _ ((HK34.out.trans HK.out (fun _ _ e => e)).trans kab (fun _ _ e => e))
      rw [z1] at lb
      exact ⟨w.heap.size, w.heap.size + 1, wr.heap.size + 1, w.heap.size + 1 + 1, wr.heap.size, rfl, (HK4.out.trans HK.out (fun _ _ e => e)).trans kab (fun _ _ e => e), hs.1, hs.2.1, lb.cell (j := 0) rfl, hs.2.2, (la.keep kb id).cell (j := 0) rfl⟩
end Go.Proofs.Ytbbgplnenbkfeaa
