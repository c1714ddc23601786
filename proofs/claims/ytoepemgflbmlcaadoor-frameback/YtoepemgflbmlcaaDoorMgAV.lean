/- Texts of this proof, joined: Qx, Qy. -/
import Derived.Test.YtoepemgflbmlcaaDoorMgAT
/- The same commands, votes and messages are found the same. -/
namespace Go.Proofs.YtoepemgflbmlcaaDoor
set_option linter.unusedVariables false
open Go.RowKit Go.Deep Go.Maps

theorem wrapV' (k n : Nat) (hk : k ≤ n) (h : n * 8 ≤ 140737488355328) : wrap64 ((k : Int) + 1) = ((k + 1 : Nat) : Int) := by unfold wrap64; omega

set_option maxRecDepth 100000 in
set_option maxHeartbeats 800000 in
theorem same_ints (Z1 Z2 : Nat → Prop) (p1 p2 : Option Addr) (c1 c2 : Nat) (zs : List Int) (w : World) (h1 : Fl w Z1 p1 (zs.map encI)) (h2 : Fl w Z2 p2 (zs.map encI)) (hl : Hid (zs.length * 8 ≤ 140737488355328)) :
    Calls Tryd.prog 34 #[.slice p1 zs.length c1, .slice p2 zs.length c2] w fun e w' => e = .returned (.bool true) ∧ Kp (fun _ => False) w w' := by
  obtain ⟨L, hL⟩ : ∃ L, L = zs.length := ⟨_, rfl⟩
  have HL : Hid (L = zs.length) := hL
  have HK : Hid (L * 8 ≤ 140737488355328) := by rw [hL]; exact hl
  rw [← hL]
  have H1 : Hid (Fl w Z1 p1 (zs.map encI)) := h1
  have H2 : Hid (Fl w Z2 p2 (zs.map encI)) := h2
  clear h1 h2 hL hl
  go_enter Tryd.func34, Tryd.ntmps34
  go_wp2
  go_loopg [13] L (fun gk i wr => ∃ k : Nat, k ≤ L ∧ gk = L - k ∧ i = .int .i64 k ∧ Kp (fun _ => False) w wr)
  case atStart => exact ⟨0, Nat.zero_le _, rfl, rfl, Kp.refl _ _⟩
  case round =>
    obtain ⟨k, hk, rfl, rfl, hK⟩ := hrel
    by_cases hlt : (k : Int) < (L : Int)
    · have hkl : k < zs.length := by have := HL.out; omega
      have hg : (zs.map encI)[k]? = some (encI zs[k]) := by rw [List.getElem?_map, List.getElem?_eq_getElem hkl]; rfl
      obtain ⟨b1, o1, rfl, _, e1⟩ := (H1.out.keep hK (fun _ _ => id)) k _ hg
      obtain ⟨b2, o2, rfl, _, e2⟩ := (H2.out.keep hK (fun _ _ => id)) k _ hg
      have HK1 : Hid (wrap64 ((k : Int) + 1) = ((k + 1 : Nat) : Int)) := wrapV' k L hk HK.out
      obtain ⟨z, hz⟩ : ∃ z, z = zs[k] := ⟨_, rfl⟩
      rw [← hz] at e1 e2
      clear hg hz
      go_wp2
      go_region
      go_wp2
      go_roundg (L - (k + 1))
      case rel => exact ⟨k + 1, by omega, rfl, by rw [HK1.out], hK.drew⟩
      case measure => omega
    · go_wp2
      go_ret
      exact ⟨rfl, hK⟩

set_option maxRecDepth 100000 in
set_option maxHeartbeats 1600000 in
theorem same_cmd (c : Cs0) (Z1 Z2 : Nat → Prop) (p1 p2 : Option Addr) (c1 c2 : Nat) (zs : List Int) (w : World) (h1 : Fl w Z1 p1 (zs.map encI)) (h2 : Fl w Z2 p2 (zs.map encI)) (hl : Hid (zs.length * 8 ≤ 140737488355328)) :
    Calls Tryd.prog 12 #[.agg (cmdA c (.slice p1 zs.length c1)), .agg (cmdA c (.slice p2 zs.length c2))] w fun e w' => e = .returned (.bool true) ∧ Kp (fun _ => False) w w' := by
  have HE : Hid (∀ u, Kp (fun _ => False) w u → Calls _ _ _ u _) := fun u k => same_ints Z1 Z2 p1 p2 c1 c2 zs u (h1.keep k (fun _ _ => id)) (h2.keep k (fun _ _ => id)) hl
  obtain ⟨L, hL⟩ : ∃ L, L = zs.length := ⟨_, rfl⟩
  rw [← hL] at HE ⊢
  clear h1 h2 hL hl
  go_enter Tryd.func12, Tryd.ntmps12
  go_wp2_with (go_at_call 34; refine (HE.out _ (by first | exact Kp.refl _ _ | exact (Kp.refl _ _).alloc _ | exact ((Kp.refl _ _).alloc _).alloc _)).mono ?_; rintro e w3 ⟨rfl, k3⟩)
  go_ret
  exact ⟨rfl, (((Kp.refl _ _).alloc _).alloc _).trans k3 (fun _ _ e => e)⟩

set_option maxRecDepth 100000 in
set_option maxHeartbeats 800000 in
theorem bytesEq_run (v1 v2 : Value) (b : ByteArray) (w : World) (h1 : (convert 28 9 v1).run Tryd.prog w = .ok (.string b) w) (h2 : (convert 28 9 v2).run Tryd.prog w = .ok (.string b) w) :
    Calls Tryd.prog 11 #[v1, v2] w fun e w' => e = .returned (.bool true) ∧ w' = w := by
  go_enter Tryd.func11, Tryd.ntmps11
  go_wp2
  go_ret
  exact ⟨rfl, rfl⟩
theorem bytes_same (p1 p2 : Option Addr) (n1 n2 c1 c2 : Nat) (xs : List Nat) (w : World) (h1 : Rb w p1 n1 xs) (h2 : Rb w p2 n2 xs) :
    Calls Tryd.prog 11 #[.slice p1 n1 c1, .slice p2 n2 c2] w fun e w' => e = .returned (.bool true) ∧ w' = w :=
  bytesEq_run _ _ _ w (convert_bytes p1 n1 c1 xs w h1) (convert_bytes p2 n2 c2 xs w h2)

set_option maxRecDepth 100000 in
set_option maxHeartbeats 1600000 in
theorem same_vote (v : Vo) (Z1 Z2 : Nat → Prop) (p1 p2 : Option Addr) (c1 c2 : Nat) (w : World) (h1 : Fl w Z1 p1 (v.nodes.map encI)) (h2 : Fl w Z2 p2 (v.nodes.map encI)) (hl : Hid (v.nodes.length * 8 ≤ 140737488355328)) :
    Calls Tryd.prog 48 #[.agg (vcell v (.slice p1 v.nodes.length c1)).toArray, .agg (vcell v (.slice p2 v.nodes.length c2)).toArray] w fun e w' => e = .returned (.bool true) ∧ Kp (fun _ => False) w w' := by
  have HE : Hid (∀ u, Kp (fun _ => False) w u → Calls _ _ _ u _) := fun u k => same_cmd v.c Z1 Z2 p1 p2 c1 c2 v.nodes u (h1.keep k (fun _ _ => id)) (h2.keep k (fun _ _ => id)) hl
  obtain ⟨L, hL⟩ : ∃ L, L = v.nodes.length := ⟨_, rfl⟩
  rw [← hL] at HE ⊢
  clear h1 h2 hL hl
  go_enter Tryd.func48, Tryd.ntmps48
  go_wp2_with (go_at_call 12; refine (HE.out _ (by first | exact Kp.refl _ _ | exact (Kp.refl _ _).alloc _ | exact ((Kp.refl _ _).alloc _).alloc _)).mono ?_; rintro e w3 ⟨rfl, k3⟩)
  go_ret
  exact ⟨rfl, (((Kp.refl _ _).alloc _).alloc _).trans k3 (fun _ _ e => e)⟩

end Go.Proofs.YtoepemgflbmlcaaDoor

/- The same votes and messages are found the same. -/
namespace Go.Proofs.YtoepemgflbmlcaaDoor
set_option linter.unusedVariables false
open Go.RowKit Go.Deep Go.Maps

theorem szVote : (Tryd.prog.info? 72).map (·.size) = some 14 := by kernel_rfl
theorem dsVote : ∃ d, Tryd.prog.underlying 72 = some d ∧ d.isRow = true := ⟨_, Tryd.underlying72, rfl⟩

abbrev zeroV : List Value := .int .i64 0 :: .int .i64 0 :: zeroC.toList
theorem vcell_one (v : Vo) {nv : Value} (h : nv.oneCell' = true) : (vcell v nv).toArray.all (·.oneCell') = true := all_oneCell_toArray (fun x hx => by
  rcases List.mem_cons.1 hx with rfl | hx
  · rfl
  · rcases List.mem_cons.1 hx with rfl | hx
    · rfl
    · exact (Array.all_eq_true_iff_forall_mem.1 (cmd_one v.c h)) x (by simpa using hx))
theorem fl_range {w : World} {Z : Nat → Prop} {p : Option Addr} {l : List (Vo × Value)} (h : Fl w Z p (vflat l)) {k : Nat} (hk : k < l.length) : ∃ b o, p = some ⟨b, o, none⟩ ∧ w.rangeAt b (o + k * 14) (vcell l[k].1 l[k].2) := by
  have hs : l = l.take k ++ l[k] :: l.drop (k + 1) := by rw [← List.drop_eq_getElem_cons hk, List.take_append_drop]
  have hget : ∀ j u, (vcell l[k].1 l[k].2)[j]? = some u → (vflat l)[k * 14 + j]? = some u := fun j u hu => by
    have hj : j < 14 := by have := (List.getElem?_eq_some_iff.1 hu).1; simpa using this
    rw [hs, vflat_append, List.getElem?_append_right (by rw [vflat_len, List.length_take]; omega), vflat_len, List.length_take, Nat.min_eq_left (by omega), show k * 14 + j - k * 14 = j by omega]
    show (vcell l[k].1 l[k].2 ++ vflat (l.drop (k + 1)))[j]? = _
    rw [List.getElem?_append_left (by simpa using hj)]
    exact hu
  obtain ⟨b, o, e, _, _⟩ := h (k * 14 + 0) _ (hget 0 _ rfl)
  refine ⟨b, o, e, fun j u hu => ?_⟩
  obtain ⟨b', o', e', _, hc⟩ := h (k * 14 + j) u (hget j u hu)
  rw [e] at e'
  cases e'
  rw [Nat.add_assoc]
  exact hc

set_option maxRecDepth 100000 in
set_option maxHeartbeats 1600000 in
theorem same_votes (Z1 Z2 : Nat → Prop) (p1 p2 : Option Addr) (c1 c2 : Nat) (l1 l2 : List (Vo × Value)) (w : World) (hm : l1.map (·.1) = l2.map (·.1)) (h1 : Fl w Z1 p1 (vflat l1)) (h2 : Fl w Z2 p2 (vflat l2)) (hv1 : Vn w Z1 l1) (hv2 : Vn w Z2 l2) (hl : Hid (l1.length * 136 ≤ 140737488355328)) :
    Calls Tryd.prog 47 #[.slice p1 l1.length c1, .slice p2 l2.length c2, .func (.func 48) #[] #[]] w fun e w' => e = .returned (.bool true) ∧ Kp (fun _ => False) w w' := by
  have hll : l2.length = l1.length := by have := congrArg List.length hm; simpa using this.symm
  obtain ⟨L, hL⟩ : ∃ L, L = l1.length := ⟨_, rfl⟩
  rw [hll, ← hL]
  have HL : Hid (L = l1.length ∧ l2.length = l1.length) := ⟨hL, hll⟩
  have HM : Hid (l1.map (·.1) = l2.map (·.1)) := hm
  have H1 : Hid (Fl w Z1 p1 (vflat l1)) := h1
  have H2 : Hid (Fl w Z2 p2 (vflat l2)) := h2
  have HV1 : Hid (Vn w Z1 l1) := hv1
  have HV2 : Hid (Vn w Z2 l2) := hv2
  have HK : Hid (L * 136 ≤ 140737488355328) := by rw [hL]; exact hl
  clear h1 h2 hv1 hv2 hm hll hL hl
  go_enter Tryd.func47, Tryd.ntmps47
  go_wp2
  go_loopg [17] L (fun gk i wr => ∃ k : Nat, k ≤ L ∧ gk = L - k ∧ i = .int .i64 k ∧ Kp (fun _ => False) w wr)
  case atStart => exact ⟨0, Nat.zero_le _, rfl, rfl, Kp.refl _ _⟩
  case round =>
    obtain ⟨k, hk, rfl, rfl, hK⟩ := hrel
    by_cases hlt : (k : Int) < (L : Int)
    · have hk1 : k < l1.length := by have := HL.out; omega
      have hk2 : k < l2.length := by have := HL.out; omega
      obtain ⟨b1, o1, rfl, r1⟩ := fl_range (H1.out.keep hK (fun _ _ => id)) hk1
      obtain ⟨b2, o2, rfl, r2⟩ := fl_range (H2.out.keep hK (fun _ _ => id)) hk2
      obtain ⟨q1, d1, en1, f1, hb1⟩ := (HV1.out.keep hK (fun _ _ => id)) l1[k] (List.getElem_mem hk1)
      obtain ⟨q2, d2, en2, f2, hb2⟩ := (HV2.out.keep hK (fun _ _ => id)) l2[k] (List.getElem_mem hk2)
      have hv : l2[k].1 = l1[k].1 := by
        have e1 : (l1.map (·.1))[k]? = some l1[k].1 := by rw [List.getElem?_map, List.getElem?_eq_getElem hk1]; rfl
        have e2 : (l2.map (·.1))[k]? = some l2[k].1 := by rw [List.getElem?_map, List.getElem?_eq_getElem hk2]; rfl
        rw [HM.out, e2] at e1
        exact Option.some.inj e1
      rw [hv] at r2 en2 f2
      rw [en1] at r1
      rw [en2] at r2
      obtain ⟨v, hvv⟩ : ∃ v, v = l1[k].1 := ⟨_, rfl⟩
      rw [← hvv] at r1 r2 f1 f2 hb1
      have HSv : Hid (∀ u, Kp (fun _ => False) wr u → Calls _ _ _ u _) := fun u ku => same_vote v Z1 Z2 q1 q2 d1 d2 u (f1.keep ku (fun _ _ => id)) (f2.keep ku (fun _ _ => id)) hb1
      obtain ⟨nl, hnl⟩ : ∃ nl, nl = v.nodes.length := ⟨_, rfl⟩
      rw [← hnl] at r1 r2 HSv
      have HR1 : Hid (wr.rangeAt b1 (o1 + k * 14) (vcell v (.slice q1 nl d1))) := r1
      have HR2 : Hid (∀ u, Kp (fun _ => False) wr u → u.rangeAt b2 (o2 + k * 14) (vcell v (.slice q2 nl d2))) := fun u ku j x hx => ku.cellv (r2 j x hx) id
      have HO1 : Hid ((vcell v (.slice q1 nl d1)).toArray.all (·.oneCell') = true) := vcell_one v rfl
      have HO2 : Hid ((vcell v (.slice q2 nl d2)).toArray.all (·.oneCell') = true) := vcell_one v rfl
      have HK1 : Hid (wrap64 ((k : Int) + 1) = ((k + 1 : Nat) : Int)) := wrapV k L hk HK.out
      obtain ⟨d, hd1, hd2⟩ := dsVote
      clear r1 r2 f1 f2 en1 en2 hv hvv hnl hb1 hb2 hk1 hk2
      go_wp2_with (first
        | (refine wpList_load_mid rfl 72 _ rfl b1 (o1 + k * 14) rfl _ d HR1.out hd1 hd2 szVote ?_)
        | (refine wpList_store_all rfl 72 _ _ rfl 14 wr.heap.size zeroV (vcell v (.slice q1 nl d1)) rfl rfl (by exact Lv.new wr _ _) szVote rfl rfl HO1.out ?_; intro u2 hl2 k2; have ku2 : Kp (fun _ => False) wr u2 := ((Kp.refl (fun _ => False) wr).alloc _).trans k2 (fun b hb e => by omega); have HR2' : Hid (u2.rangeAt b2 (o2 + k * 14) (vcell v (.slice q2 nl d2))) := HR2.out u2 ku2; have HL2 : Hid (Lv u2 wr.heap.size (vcell v (.slice q1 nl d1))) := hl2; clear hl2 k2)
        | (refine wpList_load_mid rfl 72 _ rfl b2 (o2 + k * 14) rfl _ d HR2'.out hd1 hd2 szVote ?_)
        | (refine wpList_store_all rfl 72 _ _ rfl 14 u2.heap.size zeroV (vcell v (.slice q2 nl d2)) rfl rfl (by exact Lv.new u2 _ _) szVote rfl rfl HO2.out ?_; intro u3 hl3 k3; have ku3 : Kp (fun _ => False) u2 u3 := ((Kp.refl (fun _ => False) u2).alloc _).trans k3 (fun b hb e => by omega); have HL3 : Hid (Lv u3 u2.heap.size (vcell v (.slice q2 nl d2))) := hl3; have HL2' : Hid (Lv u3 wr.heap.size (vcell v (.slice q1 nl d1))) := HL2.out.keep ku3 id; have kw3 := ku2.trans ku3 (fun _ _ e => e); clear hl3 k3)
        | (refine wpList_load_all rfl 72 _ rfl 14 wr.heap.size (vcell v (.slice q1 nl d1)) rfl HL2'.out dsVote szVote rfl ?_)
        | (refine wpList_load_all rfl 72 _ rfl 14 u2.heap.size (vcell v (.slice q2 nl d2)) rfl HL3.out dsVote szVote rfl ?_)
        | (go_at_call 48; refine (HSv.out _ kw3).mono ?_; rintro e u4 ⟨rfl, k4⟩))
      go_roundg (L - (k + 1))
      case rel => exact ⟨k + 1, by omega, rfl, by rw [HK1.out], (hK.trans kw3 (fun _ _ e => e)).trans k4 (fun _ _ e => e)⟩
      case measure => omega
    · go_wp2
      go_ret
      exact ⟨rfl, hK⟩
end Go.Proofs.YtoepemgflbmlcaaDoor
