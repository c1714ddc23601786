/- The walk of the law PostNobody: posts that no call made. -/
import Derived.Test.YtiplhbpjppkniaaQn
namespace Go.Proofs.Ytiplhbpjppkniaa
set_option linter.unusedVariables false
open Go.RowKit Go.Deep Go.Maps

def ms0 : Ms := ⟨⟨0, 0, 0, 0, 0, 0, 0, 0, 0, false, ⟨0, 0, ⟨#[]⟩, 0, 0, 0, 0, 0, 0, 0, 0⟩⟩, [], [], []⟩
theorem mr_nil (w : World) : Mr w (fun _ => True) ms0 (nilMsg 0) :=
  ⟨none, 0, none, 0, [], none, 0, rfl, fun j u hu => (by simp [ms0] at hu), by simp [ms0], rfl, fun j u hu => (by simp [vflat] at hu), fun x hx => (by cases hx), by simp, fun j u hu => (by simp [ms0, vl] at hu), fun x hx => (by cases hx), by simp [ms0]⟩
theorem same_nil (w : World) : Calls Try.prog 14 #[nilMsg 0, nilMsg 0] w fun e w' => e = .returned (.bool true) ∧ Kp (fun _ => False) w w' := same_msg _ _ ms0 _ _ w (mr_nil w) (mr_nil w)

set_option maxRecDepth 100000 in
set_option maxHeartbeats 8000000 in
theorem postNobody_walk (v : Value) (ii : Int) (w : World) (hv : ∃ μ, Mr w (· < w.heap.size) μ v) :
    Calls Try.prog 6 #[v, .int .i64 ii] w fun e w' => e = .returned (.bool true) ∧ Kp (fun _ => False) w w' := by
  obtain ⟨μ, hm⟩ := hv
  have HM : Hid (Mr w (· < w.heap.size) μ v) := hm
  obtain ⟨cs, rfl, hc24, hc1⟩ := sh_mr hm
  have HSh : Hid (Sh (.agg cs.toArray)) := sh_mr hm
  have HL24 : Hid (cs.length = 24) := hc24
  clear hm hc24 hc1
  go_enter Try.func6, Try.ntmps6
  go_wp2_with fail
  obtain ⟨u, hu⟩ : ∃ x, x = ((w.alloc (.cells cs.toArray 38)).alloc (.cells #[.int .i64 0, .map none] 60)).alloc (.cells #[.pointer none, .pointer (some ⟨w.heap.size + 1, 0, none⟩)] 23) := ⟨_, rfl⟩
  rw [← hu]
  have z1 : (w.alloc (.cells cs.toArray 38)).heap.size = w.heap.size + 1 := by simp
  have z2 : ((w.alloc (.cells cs.toArray 38)).alloc (.cells #[.int .i64 0, .map none] 60)).heap.size = w.heap.size + 1 + 1 := by simp
  have k0 : Kp (fun _ => False) w u := by rw [hu]; exact (((Kp.refl _ _).alloc _).alloc _).alloc _
  have HLb : Hid (Lv u w.heap.size cs) := by rw [hu]; exact ((Lv.new w cs.toArray 38).keep ((Kp.refl (fun _ => False) _).alloc _) id).keep ((Kp.refl (fun _ => False) _).alloc _) id
  have l2 : Lv u (w.heap.size + 1) [.int .i64 0, .map none] := by rw [hu, ← z1]; exact (Lv.new _ _ _).keep ((Kp.refl (fun _ => False) _).alloc _) id
  have l3 : Lv u (w.heap.size + 1 + 1) [.pointer none, .pointer (some ⟨w.heap.size + 1, 0, none⟩)] := by rw [hu, ← z2]; exact Lv.new _ _ _
  have HEa : Hid (∀ j : Nat, j < 2 → ∃ pv, u.cell? ⟨w.heap.size + 1 + 1, j, none⟩ = some pv ∧ Np u pv) := fun j hj => by
    have hj2 : j = 0 ∨ j = 1 := by omega
    rcases hj2 with rfl | rfl
    · exact ⟨_, l3.cell (j := 0) rfl, np_nil u⟩
    · exact ⟨_, l3.cell (j := 1) rfl, np_zero (l2.cell (j := 1) rfl)⟩
  obtain ⟨g, hg⟩ : ∃ g, g = w.heap.size := ⟨_, rfl⟩
  obtain ⟨r, hr⟩ : ∃ r, r = w.heap.size + 1 + 1 := ⟨_, rfl⟩
  obtain ⟨t, ht⟩ : ∃ t, t = w.heap.size + 1 := ⟨_, rfl⟩
  rw [← hr] at HEa ⊢
  rw [← ht]
  rw [← hg] at HLb ⊢
  have HSn : Hid (∀ u, Calls _ _ _ u _) := same_nil
  have HO1 : Hid ((nilArr 0).toList.toArray.all (·.oneCell') = true) := nil_one 0
  obtain ⟨dm, hdm1, hdm2⟩ := dsMsg
  clear hu z1 z2 l2 l3 hg hr ht
  go_loopg [17] 2 (fun gk i wr => ∃ (j : Nat), j ≤ 2 ∧ gk = 2 - j ∧ i = .int .i64 j ∧ Kp (fun _ => False) u wr)
  case atStart => exact ⟨0, by omega, rfl, rfl, Kp.refl _ _⟩
  case round =>
    obtain ⟨j, hj, rfl, rfl, kr⟩ := hrel
    by_cases hlt : (j : Int) < 2
    · obtain ⟨pv, hpv, hnp⟩ := HEa.out j (by omega)
      have cp := kr.cellv hpv id
      have HNp : Hid (∀ z, Kp (fun _ => False) wr z → Np z pv) := fun z kz => (hnp.keep kr).keep kz
      have HLr : Hid (Lv wr g cs) := HLb.out.keep kr id
      clear hpv hnp
      go_wp2_with (first
        | (refine wpList_load_all rfl 38 _ rfl 24 g cs rfl HLr.out dsMsg szMsg HL24.out ?_)
        | (go_at_call 9; refine (nsend (HNp.out _ (Kp.refl _ _)) HSh.out).mono ?_; rintro e w1 ⟨rfl, k1⟩)
        | (go_at_call 12; refine (ntake ii (HNp.out _ k1)).mono ?_; rintro e w2 ⟨rfl, k2⟩; have k02 := k1.trans k2 (fun _ _ e => e))
        | (refine wpList_store_all rfl 38 _ _ rfl 24 w2.heap.size (nilArr 0).toList (nilArr 0).toList rfl rfl (by exact Lv.new w2 _ _) sizeMsg rfl rfl HO1.out ?_; intro u3 hl3 k3; have HL3 : Hid (Lv u3 w2.heap.size (nilArr 0).toList) := hl3; have ku3 : Kp (fun _ => False) w2 u3 := ((Kp.refl (fun _ => False) w2).alloc _).trans k3 (fun b hb e => by omega); have k03 := k02.trans ku3 (fun _ _ e => e); clear hl3 k3)
        | (go_at_call 17; refine (ntwice ii (HNp.out _ k03)).mono ?_; rintro e w4 ⟨rfl, k4⟩; have k04 := k03.trans k4 (fun _ _ e => e))
        | (go_at_call 15; refine (nlose ii (HNp.out _ k04)).mono ?_; rintro e w5 ⟨rfl, k5⟩; have k05 := k04.trans k5 (fun _ _ e => e))
        | (go_at_call 20; refine (npackets (HNp.out _ k05)).mono ?_; rintro e w6 ⟨rfl, k6⟩; have k06 := k05.trans k6 (fun _ _ e => e); have HR6 : Hid (w6.rangeAt w2.heap.size 0 (nilArr 0).toList) := (fun x y hxy => by rw [Nat.zero_add]; exact (((HL3.out.keep k4 id).keep k5 id).keep k6 id).cell hxy))
        | (refine wpList_load_want (by first | rfl | go_simp) 38 _ rfl w2.heap.size 0 rfl (nilArr 0).toList dm HR6.out hdm1 hdm2 (by rw [szMsg]; rfl) ?_)
        | (go_at_call 14; refine (HSn.out _).mono ?_; rintro e w7 ⟨rfl, k7⟩))
      go_roundg (2 - (j + 1))
      case rel => exact ⟨j + 1, by omega, rfl, by go_num, (kr.trans k06 (fun _ _ e => e)).trans k7 (fun _ _ e => e)⟩
      case measure => omega
    · have HLr : Hid (Lv wr g cs) := HLb.out.keep kr id
      have k0r := k0.trans kr (fun _ _ e => e)
      have HPn : Hid (Calls _ _ _ wr _) := postNumbers_walk 1 (.agg cs.toArray) wr ⟨μ, (HM.out.keep k0r (fun _ _ => id)).mono (fun b hb => Nat.lt_of_lt_of_le hb k0r.size)⟩
      go_wp2_with (first
        | (refine wpList_load_all rfl 38 _ rfl 24 g cs rfl HLr.out dsMsg szMsg HL24.out ?_)
        | (go_at_call 5; refine HPn.out.mono ?_; rintro e w8 ⟨rfl, k8⟩))
      go_ret
      exact ⟨rfl, k0r.trans k8 (fun _ _ e => e)⟩
end Go.Proofs.Ytiplhbpjppkniaa
