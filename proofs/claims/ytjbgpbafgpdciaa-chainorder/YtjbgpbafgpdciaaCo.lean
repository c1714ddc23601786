/- Lists of commands that are the same; which slots a list of votes has. -/
import Derived.Test.YtjbgpbafgpdciaaCpc
import Derived.Test.YtjbgpbafgpdciaaCt
namespace Go.Proofs.Ytjbgpbafgpdciaa
set_option linter.unusedVariables false
open Go.RowKit Go.Deep Go.Maps

theorem szVo : (Try.prog.info? 36).map (·.size) = some 14 := by kernel_rfl
theorem dsVo : ∃ d, Try.prog.underlying 36 = some d ∧ d.isRow = true := ⟨_, Try.underlying36, rfl⟩
def vo0 : Vo := ⟨0, 0, cs00, []⟩
theorem vc_one (v : Vo) {nv : Value} (h : nv.oneCell' = true) : (vcell v nv).toArray.all (·.oneCell') = true := all_oneCell_toArray (fun x hx => by
  rcases List.mem_cons.1 hx with rfl | hx
  · rfl
  · rcases List.mem_cons.1 hx with rfl | hx
    · rfl
    · exact (Array.all_eq_true_iff_forall_mem.1 (cmd_one v.c h)) x (by simpa using hx))
theorem fl_c {w : World} {Z : Nat → Prop} {p : Option Addr} {l : List Cv} (h : Fl w Z p (cflat l)) {k : Nat} (hk : k < l.length) : ∃ b o, p = some ⟨b, o, none⟩ ∧ w.rangeAt b (o + k * 12) (ccell l[k]).toList := by
  obtain ⟨bb, off, rfl, hzz, hcc⟩ := h (k * 12) (.int .i64 l[k].1.id) (by
    have h1 := cflat_nth l k hk
    have h2 : (((cflat l).drop (k * 12)).take 12)[0]? = some (.int .i64 l[k].1.id) := by rw [h1]; rfl
    rw [List.getElem?_take_of_lt (by omega), List.getElem?_drop] at h2
    simpa using h2)
  have hr := fl_range h (k * 12) 12
  rw [cflat_nth l k hk] at hr
  exact ⟨bb, off, rfl, hr⟩
theorem fl_v {w : World} {Z : Nat → Prop} {p : Option Addr} {l : List (Vo × Value)} (h : Fl w Z p (vflat l)) {k : Nat} (hk : k < l.length) : ∃ b o, p = some ⟨b, o, none⟩ ∧ w.rangeAt b (o + k * 14) (vcell l[k].1 l[k].2) := by
  obtain ⟨bb, off, rfl, hzz, hcc⟩ := h (k * 14) (.int .i64 l[k].1.slot) (by
    have h1 := vflat_nth l k hk
    have h2 : (((vflat l).drop (k * 14)).take 14)[0]? = some (.int .i64 l[k].1.slot) := by rw [h1]; rfl
    rw [List.getElem?_take_of_lt (by omega), List.getElem?_drop] at h2
    simpa using h2)
  have hr := fl_range h (k * 14) 14
  rw [vflat_nth l k hk] at hr
  exact ⟨bb, off, rfl, hr⟩

set_option maxRecDepth 100000 in
set_option maxHeartbeats 1600000 in
theorem eqf_cmds (Z1 Z2 : Nat → Prop) (p1 p2 : Option Addr) (c1 c2 : Nat) (l1 l2 : List Cv) (w : World) (hm : l1.map (fun x => (x.1, x.2.1)) = l2.map (fun x => (x.1, x.2.1))) (h1 : Fl w Z1 p1 (cflat l1)) (h2 : Fl w Z2 p2 (cflat l2)) (hv1 : ∀ y ∈ l1, Ni w Z1 y.2.1 y.2.2) (hv2 : ∀ y ∈ l2, Ni w Z2 y.2.1 y.2.2) (hl : Hid (l1.length * 8 ≤ 140737488355328)) :
    Calls Try.prog 17 #[.slice p1 l1.length c1, .slice p2 l2.length c2, .func (.func 16) #[] #[]] w fun e w' => e = .returned (.bool true) ∧ Kp (fun _ => False) w w' := by
  have hll : l2.length = l1.length := by have := congrArg List.length hm; simpa using this.symm
  obtain ⟨L, hL⟩ : ∃ L, L = l1.length := ⟨_, rfl⟩
  rw [hll, ← hL]
  have HL : Hid (L = l1.length ∧ l2.length = l1.length) := ⟨hL, hll⟩
  have HM : Hid (l1.map (fun x => (x.1, x.2.1)) = l2.map (fun x => (x.1, x.2.1))) := hm
  have H1 : Hid (Fl w Z1 p1 (cflat l1)) := h1
  have H2 : Hid (Fl w Z2 p2 (cflat l2)) := h2
  have HV1 : Hid (∀ y ∈ l1, Ni w Z1 y.2.1 y.2.2) := hv1
  have HV2 : Hid (∀ y ∈ l2, Ni w Z2 y.2.1 y.2.2) := hv2
  have HK : Hid (L * 8 ≤ 140737488355328) := by rw [hL]; exact hl
  clear h1 h2 hv1 hv2 hm hll hL hl
  go_enter Try.func17, Try.ntmps17
  go_wp2
  go_loopg [17] L (fun gk i wr => ∃ k : Nat, k ≤ L ∧ gk = L - k ∧ i = .int .i64 k ∧ Kp (fun _ => False) w wr)
  case atStart => exact ⟨0, Nat.zero_le _, rfl, rfl, Kp.refl _ _⟩
  case round =>
    obtain ⟨k, hk, rfl, rfl, hK⟩ := hrel
    by_cases hlt : (k : Int) < (L : Int)
    · have hk1 : k < l1.length := by have := HL.out; omega
      have hk2 : k < l2.length := by have := HL.out; omega
      obtain ⟨b1, o1, rfl, r1⟩ := fl_c (H1.out.keep hK (fun _ _ => id)) hk1
      obtain ⟨b2, o2, rfl, r2⟩ := fl_c (H2.out.keep hK (fun _ _ => id)) hk2
      have f1 : Ni wr Z1 l1[k].2.1 l1[k].2.2 := (HV1.out l1[k] (List.getElem_mem hk1)).keep hK (fun _ _ => id)
      have f2 : Ni wr Z2 l2[k].2.1 l2[k].2.2 := (HV2.out l2[k] (List.getElem_mem hk2)).keep hK (fun _ _ => id)
      have hv : (l1[k].1, l1[k].2.1) = (l2[k].1, l2[k].2.1) := by
        have e1 : (l1.map (fun x : Cv => (x.1, x.2.1)))[k]? = some (l1[k].1, l1[k].2.1) := by rw [List.getElem?_map, List.getElem?_eq_getElem hk1]; rfl
        have e2 : (l2.map (fun x : Cv => (x.1, x.2.1)))[k]? = some (l2[k].1, l2[k].2.1) := by rw [List.getElem?_map, List.getElem?_eq_getElem hk2]; rfl
        rw [HM.out, e2] at e1
        exact (Option.some.inj e1).symm
      obtain ⟨x, hx⟩ : ∃ x, x = l1[k] := ⟨_, rfl⟩
      obtain ⟨y, hy⟩ : ∃ y, y = l2[k] := ⟨_, rfl⟩
      rw [← hx] at r1 f1 hv
      rw [← hy] at r2 f2 hv
      have HSv : Hid (∀ u, Kp (fun _ => False) wr u → Calls _ _ _ u _) := fun u ku => psame_ok x.1 y.1 Z1 Z2 x.2.1 y.2.1 x.2.2 y.2.2 u (f1.keep ku (fun _ _ => id)) (f2.keep ku (fun _ _ => id))
      have HEq : Hid (x.1 = y.1 ∧ x.2.1 = y.2.1) := ⟨(Prod.mk.inj hv).1, (Prod.mk.inj hv).2⟩
      have HR1 : Hid (wr.rangeAt b1 (o1 + k * 12) (ccell x).toList) := r1
      have HR2 : Hid (∀ u, Kp (fun _ => False) wr u → u.rangeAt b2 (o2 + k * 12) (ccell y).toList) := fun u ku j v hv => ku.cellv (r2 j v hv) id
      have HO1 : Hid ((ccell x).toList.toArray.all (·.oneCell') = true) := cc_one x f1
      have HO2 : Hid ((ccell y).toList.toArray.all (·.oneCell') = true) := cc_one y f2
      have HK1 : Hid (wrap64 ((k : Int) + 1) = ((k + 1 : Nat) : Int)) := wrapV' k L hk HK.out
      obtain ⟨xs, hxs⟩ : ∃ xs, xs = (ccell x).toList := ⟨_, rfl⟩
      obtain ⟨ys, hys⟩ : ∃ ys, ys = (ccell y).toList := ⟨_, rfl⟩
      have ex : cmdA x.1 x.2.2 = xs.toArray := by rw [hxs]
      have ey : cmdA y.1 y.2.2 = ys.toArray := by rw [hys]
      rw [ex, ey] at HSv
      have HXl : Hid (xs.length = 12 ∧ ys.length = 12) := ⟨by rw [hxs]; rfl, by rw [hys]; rfl⟩
      rw [← hxs] at HR1 HO1
      rw [← hys] at HR2 HO2
      obtain ⟨d, hd1, hd2⟩ := dsCmd
      clear r1 r2 f1 f2 hv hx hy hxs hys ex ey hk1 hk2
      go_wp2_with (first
        | (refine wpList_load_mid rfl 34 _ rfl b1 (o1 + k * 12) rfl xs d HR1.out hd1 hd2 (by rw [szCmd, HXl.out.1]) ?_)
        | (refine wpList_store_all rfl 34 _ _ rfl 12 wr.heap.size zeroC.toList xs rfl rfl (by exact Lv.new wr _ _) szCmd rfl HXl.out.1 HO1.out ?_; intro u2 hl2 k2; have ku2 : Kp (fun _ => False) wr u2 := ((Kp.refl (fun _ => False) wr).alloc _).trans k2 (fun b hb e => by omega); have HR2' : Hid (u2.rangeAt b2 (o2 + k * 12) ys) := HR2.out u2 ku2; have HL2 : Hid (Lv u2 wr.heap.size xs) := hl2; clear hl2 k2)
        | (refine wpList_load_mid rfl 34 _ rfl b2 (o2 + k * 12) rfl ys d HR2'.out hd1 hd2 (by rw [szCmd, HXl.out.2]) ?_)
        | (refine wpList_store_all rfl 34 _ _ rfl 12 u2.heap.size zeroC.toList ys rfl rfl (by exact Lv.new u2 _ _) szCmd rfl HXl.out.2 HO2.out ?_; intro u3 hl3 k3; have ku3 : Kp (fun _ => False) u2 u3 := ((Kp.refl (fun _ => False) u2).alloc _).trans k3 (fun b hb e => by omega); have HL3 : Hid (Lv u3 u2.heap.size ys) := hl3; have HL2' : Hid (Lv u3 wr.heap.size xs) := HL2.out.keep ku3 id; have kw3 := ku2.trans ku3 (fun _ _ e => e); clear hl3 k3)
        | (refine wpList_load_all rfl 34 _ rfl 12 wr.heap.size xs rfl HL2'.out dsCmd szCmd HXl.out.1 ?_)
        | (refine wpList_load_all rfl 34 _ rfl 12 u2.heap.size ys rfl HL3.out dsCmd szCmd HXl.out.2 ?_)
        | (go_at_call 16; refine (HSv.out _ kw3).mono ?_; rintro e u4 ⟨b4, rfl, hb4, k4⟩; obtain rfl : b4 = true := hb4.2 HEq.out; clear hb4))
      go_roundg (L - (k + 1))
      case rel => exact ⟨k + 1, by omega, rfl, by rw [HK1.out], (hK.trans kw3 (fun _ _ e => e)).trans k4 (fun _ _ e => e)⟩
      case measure => omega
    · go_wp2
      go_ret
      exact ⟨rfl, hK⟩

set_option maxRecDepth 100000 in
set_option maxHeartbeats 800000 in
theorem oclo_ok (o : Vo) (nv : Value) (g : Nat) (z : Int) (w : World) (hg : w.cell? ⟨g, 0, none⟩ = some (.int .i64 z)) :
    Calls Try.prog 21 #[.agg (vcell o nv).toArray, .pointer (some ⟨g, 0, none⟩)] w fun e w' => e = .returned (.bool (o.slot == z)) ∧ Kp (fun _ => False) w w' := by
  obtain ⟨xa, hxa⟩ : ∃ xa, xa = (vcell o nv).toArray := ⟨_, rfl⟩
  rw [← hxa]
  have kk : Kp (fun _ => False) w (w.alloc (.cells xa 36)) := (Kp.refl _ _).alloc _
  have c1 : (w.alloc (.cells xa 36)).cell? ⟨g, 0, none⟩ = some (.int .i64 z) := kk.cellv hg id
  have c2 : (w.alloc (.cells xa 36)).cell? ⟨w.heap.size, 0, none⟩ = some (.int .i64 o.slot) := (Lv.new w xa 36).cell (j := 0) (by rw [hxa]; rfl)
  clear hg hxa
  go_enter Try.func21, Try.ntmps21
  go_wp2
  go_ret
  exact ⟨rfl, kk⟩

set_option maxRecDepth 100000 in
set_option maxHeartbeats 1600000 in
theorem idxf_ok (Z : Nat → Prop) (p : Option Addr) (c g : Nat) (z : Int) (l : List (Vo × Value)) (w : World) (h : Fl w Z p (vflat l)) (hg : w.cell? ⟨g, 0, none⟩ = some (.int .i64 z)) (hl : Hid (l.length * 8 ≤ 140737488355328)) :
    Calls Try.prog 29 #[.slice p l.length c, .func (.func 21) #[] #[.pointer (some ⟨g, 0, none⟩)]] w fun e w' => ∃ r : Int, e = .returned (.int .i64 r) ∧ decide (0 ≤ r) = l.any (fun x => x.1.slot == z) ∧ Kp (fun _ => False) w w' := by
  obtain ⟨L, hL⟩ : ∃ L, L = l.length := ⟨_, rfl⟩
  have HL : Hid (L = l.length) := hL
  rw [← hL]
  have HF : Hid (Fl w Z p (vflat l)) := h
  have HG : Hid (∀ u, Kp (fun _ => False) w u → u.cell? ⟨g, 0, none⟩ = some (.int .i64 z)) := fun u ku => ku.cellv hg id
  have HK : Hid (L * 8 ≤ 140737488355328) := by rw [hL]; exact hl
  clear h hg hL hl
  go_enter Try.func29, Try.ntmps29
  go_wp2
  go_loopg [8] L (fun gk i wr => ∃ k : Nat, k ≤ L ∧ gk = L - k ∧ i = .int .i64 k ∧ Kp (fun _ => False) w wr ∧ Hid ((l.take k).any (fun x => x.1.slot == z) = false))
  case atStart => exact ⟨0, Nat.zero_le _, rfl, rfl, Kp.refl _ _, rfl⟩
  case round =>
    obtain ⟨k, hk, rfl, rfl, hK, HT⟩ := hrel
    by_cases hlt : (k : Int) < (L : Int)
    · have hk1 : k < l.length := by have := HL.out; omega
      obtain ⟨b1, o1, rfl, r1⟩ := fl_v (HF.out.keep hK (fun _ _ => id)) hk1
      obtain ⟨x, hx⟩ : ∃ x, x = l[k] := ⟨_, rfl⟩
      rw [← hx] at r1
      have HTk : Hid (l.take (k + 1) = l.take k ++ [x] ∧ x ∈ l) := ⟨by rw [hx, List.take_succ_eq_append_getElem hk1], by rw [hx]; exact List.getElem_mem hk1⟩
      have HR1 : Hid (wr.rangeAt b1 (o1 + k * 14) (vcell x.1 x.2)) := r1
      have HC : Hid (Calls _ _ _ wr _) := oclo_ok x.1 x.2 g z wr (HG.out wr hK)
      obtain ⟨ok, hok⟩ : ∃ ok, ok = (x.1.slot == z) := ⟨_, rfl⟩
      have HOk : Hid (ok = (x.1.slot == z)) := hok
      rw [← hok] at HC
      obtain ⟨xs, hxs⟩ : ∃ xs, xs = vcell x.1 x.2 := ⟨_, rfl⟩
      rw [← hxs] at HR1 HC
      have HXl : Hid (xs.length = 14) := by show _ = _; rw [hxs]; rfl
      have HK1 : Hid (wrap64 ((k : Int) + 1) = ((k + 1 : Nat) : Int)) := wrapV' k L hk HK.out
      obtain ⟨d, hd1, hd2⟩ := dsVo
      clear r1 hx hk1 hok hxs
      cases ok with
      | true =>
        go_wp2_with (first
          | (refine wpList_load_mid rfl 36 _ rfl b1 (o1 + k * 14) rfl xs d HR1.out hd1 hd2 (by rw [szVo, HXl.out]) ?_)
          | (go_at_call 21; refine HC.out.mono ?_; rintro e u4 ⟨rfl, k4⟩))
        go_ret
        refine ⟨_, rfl, ?_, hK.trans k4 (fun _ _ e => e)⟩
        rw [decide_eq_true (by omega)]
        exact (List.any_eq_true.2 ⟨x, HTk.out.2, HOk.out.symm⟩).symm
      | false =>
        go_wp2_with (first
          | (refine wpList_load_mid rfl 36 _ rfl b1 (o1 + k * 14) rfl xs d HR1.out hd1 hd2 (by rw [szVo, HXl.out]) ?_)
          | (go_at_call 21; refine HC.out.mono ?_; rintro e u4 ⟨rfl, k4⟩))
        go_roundg (L - (k + 1))
        case rel => exact ⟨k + 1, by omega, rfl, by rw [HK1.out], hK.trans k4 (fun _ _ e => e), by show _ = false; rw [HTk.out.1, List.any_append, HT.out]; simp [← HOk.out]⟩
        case measure => omega
    · have HA : Hid (l.any (fun x => x.1.slot == z) = false) := by
        have := HT.out
        rw [List.take_of_length_le (by have := HL.out; omega)] at this
        exact this
      go_wp2
      go_ret
      exact ⟨_, rfl, by rw [HA.out]; rfl, hK⟩

set_option maxRecDepth 100000 in
set_option maxHeartbeats 800000 in
theorem contf_ok (Z : Nat → Prop) (p : Option Addr) (c g : Nat) (z : Int) (l : List (Vo × Value)) (w : World) (h : Fl w Z p (vflat l)) (hg : w.cell? ⟨g, 0, none⟩ = some (.int .i64 z)) (hl : Hid (l.length * 8 ≤ 140737488355328)) :
    Calls Try.prog 20 #[.slice p l.length c, .func (.func 21) #[] #[.pointer (some ⟨g, 0, none⟩)]] w fun e w' => e = .returned (.bool (l.any (fun x => x.1.slot == z))) ∧ Kp (fun _ => False) w w' := by
  have H : Hid (Calls _ _ _ w _) := idxf_ok Z p c g z l w h hg hl
  obtain ⟨L, hL⟩ : ∃ L, L = l.length := ⟨_, rfl⟩
  obtain ⟨an, han⟩ : ∃ an, an = l.any (fun x => x.1.slot == z) := ⟨_, rfl⟩
  rw [← hL, ← han] at H
  rw [← hL, ← han]
  clear h hg hl hL han
  go_enter Try.func20, Try.ntmps20
  go_wp2_with (go_at_call 29; refine H.out.mono ?_; rintro e u4 ⟨r, rfl, hr, k4⟩; subst hr)
  go_ret
  exact ⟨rfl, k4⟩
end Go.Proofs.Ytjbgpbafgpdciaa
