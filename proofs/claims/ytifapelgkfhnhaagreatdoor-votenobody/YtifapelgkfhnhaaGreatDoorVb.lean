/- Acceptors that no call made; the walk of the law VoteNobody. -/
import Derived.Test.YtifapelgkfhnhaaGreatDoorSn
import Derived.Test.YtifapelgkfhnhaaGreatDoorQs
namespace Go.Proofs.YtifapelgkfhnhaaGreatDoor
set_option linter.unusedVariables false
open Go.RowKit Go.Deep

/-- v is an acceptor that no call made -/
def Na (w : World) (v : Value) : Prop := v = .pointer none ∨ ∃ b, v = .pointer (some ⟨b, 0, none⟩) ∧ w.cell? ⟨b, 0, none⟩ = some (.pointer none)
theorem Na.keep {w w' : World} {v : Value} (h : Na w v) (k : Kp (fun _ => False) w w') : Na w' v := by
  rcases h with h | ⟨b, h, hc⟩
  · exact Or.inl h
  · exact Or.inr ⟨b, h, k.cellv hc id⟩

set_option maxRecDepth 100000 in
set_option maxHeartbeats 400000 in
theorem amade_no (v : Value) (w : World) (h : Na w v) :
    Calls Tryz.prog 34 #[v] w fun e w' => e = .returned (.bool false) ∧ w' = w := by
  rcases h with rfl | ⟨b, rfl, hc⟩
  · go_enter Tryz.func34, Tryz.ntmps34
    go_wp2
    go_ret
    exact ⟨rfl, rfl⟩
  · go_enter Tryz.func34, Tryz.ntmps34
    go_wp2
    go_ret
    exact ⟨rfl, rfl⟩

set_option maxRecDepth 100000 in
set_option maxHeartbeats 400000 in
theorem aasked_no (v : Value) (i j : Int) (w : World) (h : Na w v) :
    Calls Tryz.prog 64 #[v, .int .i64 i, .int .i64 j] w fun e w' => e = .returned (.int .i64 2) ∧ w' = w := by
  have H : Hid (Calls _ _ _ w _) := amade_no v w h
  clear h
  go_enter Tryz.func64, Tryz.ntmps64
  go_wp2_with (go_at_call 34; refine H.out.mono ?_; rintro e w' ⟨rfl, rfl⟩)
  go_ret
  exact ⟨rfl, rfl⟩

set_option maxRecDepth 100000 in
set_option maxHeartbeats 400000 in
theorem aprepare_no (v : Value) (i j : Int) (w : World) (h : Na w v) :
    Calls Tryz.prog 22 #[v, .int .i64 i, .int .i64 j] w fun e w' => e = .returned (.tuple #[.bool false, .slice none 0 0, .int .i64 2]) ∧ Kp (fun _ => False) w w' := by
  have H : Hid (Calls _ _ _ w _) := aasked_no v i j w h
  clear h
  go_enter Tryz.func22, Tryz.ntmps22
  go_wp2_with (go_at_call 64; refine H.out.mono ?_; rintro e w' ⟨rfl, rfl⟩)
  go_ret3
  exact ⟨rfl, Kp.refl _ _⟩

set_option maxRecDepth 100000 in
set_option maxHeartbeats 400000 in
theorem aaccept_no (v : Value) (i j : Int) (cs : Array Value) (w : World) (h : Na w v) :
    Calls Tryz.prog 23 #[v, .int .i64 i, .int .i64 j, .agg cs] w fun e w' => e = .returned (.tuple #[.bool false, .int .i64 2]) ∧ Kp (fun _ => False) w w' := by
  have H : Hid (∀ u, Kp (fun _ => False) w u → Calls _ _ _ u _) := fun u k => aasked_no v i j u (h.keep k)
  clear h
  go_enter Tryz.func23, Tryz.ntmps23
  go_wp2_with (go_at_call 64; refine (H.out _ (by exact (Kp.refl _ _).alloc _)).mono ?_; rintro e w' ⟨rfl, rfl⟩)
  go_ret2
  exact ⟨rfl, (Kp.refl _ _).alloc _⟩

set_option maxRecDepth 100000 in
set_option maxHeartbeats 400000 in
theorem avotes_no (v : Value) (i : Int) (w : World) (h : Na w v) :
    Calls Tryz.prog 12 #[v, .int .i64 i] w fun e w' => e = .returned (.slice none 0 0) ∧ Kp (fun _ => False) w w' := by
  have H : Hid (Calls _ _ _ w _) := amade_no v w h
  clear h
  go_enter Tryz.func12, Tryz.ntmps12
  go_wp2_with (go_at_call 34; refine H.out.mono ?_; rintro e w' ⟨rfl, rfl⟩)
  go_ret
  exact ⟨rfl, Kp.refl _ _⟩

set_option maxRecDepth 100000 in
set_option maxHeartbeats 400000 in
theorem apromised_no (v : Value) (w : World) (h : Na w v) :
    Calls Tryz.prog 9 #[v] w fun e w' => e = .returned (.int .i64 0) ∧ Kp (fun _ => False) w w' := by
  have H : Hid (Calls _ _ _ w _) := amade_no v w h
  clear h
  go_enter Tryz.func9, Tryz.ntmps9
  go_wp2_with (go_at_call 34; refine H.out.mono ?_; rintro e w' ⟨rfl, rfl⟩)
  go_ret
  exact ⟨rfl, Kp.refl _ _⟩

set_option maxRecDepth 100000 in
set_option maxHeartbeats 400000 in
theorem aopen_no (v : Value) (w : World) (h : Ns w v) :
    Calls Tryz.prog 20 #[v] w fun e w' => e = .returned (.tuple #[.pointer none, .int .i64 2]) ∧ Kp (fun _ => False) w w' := by
  have H : Hid (Calls _ _ _ w _) := slife_no v w h
  clear h
  go_enter Tryz.func20, Tryz.ntmps20
  go_wp2_with (go_at_call 62; refine H.out.mono ?_; rintro e w' ⟨rfl, k'⟩)
  go_ret2
  exact ⟨rfl, k'⟩

theorem szCm : (Tryz.prog.info? 30).map (·.size) = some 12 := by kernel_rfl
theorem dsCm : ∃ d, Tryz.prog.underlying 30 = some d ∧ d.isRow = true := ⟨_, Tryz.underlying30, rfl⟩
set_option maxRecDepth 100000 in
set_option maxHeartbeats 4000000 in
theorem voteNobody_walk0 (i j : Int) (cs : Array Value) (hcs : cs.size = 12) (w : World) :
    Calls Tryz.prog 6 #[.int .i64 i, .int .i64 j, .agg cs] w fun e w' => e = .returned (.bool true) ∧ Kp (fun _ => False) w w' := by
  have HC : Hid (cs.toList.length = 12) := by show _ = _; simpa using hcs
  clear hcs
  go_enter Tryz.func6, Tryz.ntmps6
  go_wp2_with fail
  obtain ⟨u, hu⟩ : ∃ x, x = ((w.alloc (.cells cs 30)).alloc (.cells #[.pointer none] 76)).alloc (.cells #[.pointer none, .pointer (some ⟨w.heap.size + 1, 0, none⟩)] 35) := ⟨_, rfl⟩
  rw [← hu]
  have z1 : (w.alloc (.cells cs 30)).heap.size = w.heap.size + 1 := by simp
  have z2 : ((w.alloc (.cells cs 30)).alloc (.cells #[.pointer none] 76)).heap.size = w.heap.size + 1 + 1 := by simp
  have k0 : Kp (fun _ => False) w u := by rw [hu]; exact (((Kp.refl _ _).alloc _).alloc _).alloc _
  have HLb : Hid (Lv u w.heap.size cs.toList) := by rw [hu]; exact ((Lv.new w cs 30).keep ((Kp.refl (fun _ => False) _).alloc _) id).keep ((Kp.refl (fun _ => False) _).alloc _) id
  have l2 : Lv u (w.heap.size + 1) [.pointer none] := by rw [hu, ← z1]; exact (Lv.new _ _ _).keep ((Kp.refl (fun _ => False) _).alloc _) id
  have l3 : Lv u (w.heap.size + 1 + 1) [.pointer none, .pointer (some ⟨w.heap.size + 1, 0, none⟩)] := by rw [hu, ← z2]; exact Lv.new _ _ _
  have HEa : Hid (∀ j : Nat, j < 2 → ∃ pv, u.cell? ⟨w.heap.size + 1 + 1, j, none⟩ = some pv ∧ Na u pv) := fun j hj => by
    have hj2 : j = 0 ∨ j = 1 := by omega
    rcases hj2 with rfl | rfl
    · exact ⟨_, l3.cell (j := 0) rfl, Or.inl rfl⟩
    · exact ⟨_, l3.cell (j := 1) rfl, Or.inr ⟨_, rfl, l2.cell (j := 0) rfl⟩⟩
  obtain ⟨g, hg⟩ : ∃ g, g = w.heap.size := ⟨_, rfl⟩
  obtain ⟨r, hr⟩ : ∃ r, r = w.heap.size + 1 + 1 := ⟨_, rfl⟩
  obtain ⟨t, ht⟩ : ∃ t, t = w.heap.size + 1 := ⟨_, rfl⟩
  rw [← hr] at HEa ⊢
  rw [← ht]
  rw [← hg] at HLb ⊢
  clear hu z1 z2 l2 l3 hg hr ht
  go_loopg [22] 2 (fun gk i wr => ∃ (j : Nat), j ≤ 2 ∧ gk = 2 - j ∧ i = .int .i64 j ∧ Kp (fun _ => False) u wr)
  case atStart => exact ⟨0, by omega, rfl, rfl, Kp.refl _ _⟩
  case round =>
    obtain ⟨k, hk, rfl, rfl, kr⟩ := hrel
    obtain ⟨wr0, rfl⟩ : ∃ x, x = wr := ⟨_, rfl⟩
    by_cases hlt : (k : Int) < 2
    · obtain ⟨pv, hpv, hnp⟩ := HEa.out k (by omega)
      have cp := kr.cellv hpv id
      have HNa : Hid (∀ z, Kp (fun _ => False) wr0 z → Na z pv) := fun z kz => (hnp.keep kr).keep kz
      have HLr : Hid (∀ z, Kp (fun _ => False) wr0 z → Lv z g cs.toList) := fun z kz => (HLb.out.keep kr id).keep kz id
      clear hpv hnp
      go_wp2_with (first
        | (go_at_call 22; refine (aprepare_no pv i j wr0 (HNa.out _ (Kp.refl _ _))).mono ?_; rintro e w1 ⟨rfl, k1⟩)
        | (refine wpList_load_all rfl 30 _ rfl 12 g cs.toList rfl (HLr.out _ k1) dsCm szCm HC.out ?_; rw [Array.toArray_toList])
        | (go_at_call 23; refine (aaccept_no pv i j cs w1 (HNa.out _ k1)).mono ?_; rintro e w2 ⟨rfl, k2⟩; have k02 := k1.trans k2 (fun _ _ e => e))
        | (go_at_call 12; refine (avotes_no pv 1 w2 (HNa.out _ k02)).mono ?_; rintro e w3 ⟨rfl, k3⟩; have k03 := k02.trans k3 (fun _ _ e => e))
        | (go_at_call 9; refine (apromised_no pv w3 (HNa.out _ k03)).mono ?_; rintro e w4 ⟨rfl, k4⟩; have k04 := k03.trans k4 (fun _ _ e => e)))
      go_roundg (2 - (k + 1))
      case rel => exact ⟨k + 1, by omega, rfl, by go_num, kr.trans k04 (fun _ _ e => e)⟩
      case measure => omega
    · have k0r := k0.trans kr (fun _ _ e => e)
      have HK0 : Hid (Kp (fun _ => False) w wr0) := k0r
      clear HEa HLb k0r
      go_wp2_with fail
      obtain ⟨u2, hu2⟩ : ∃ x, x = (wr0.alloc (.cells #[.pointer none, .map none, .int .i64 0] 83)).alloc (.cells #[.pointer none, .pointer (some ⟨wr0.heap.size, 0, none⟩)] 51) := ⟨_, rfl⟩
      rw [← hu2]
      have z1 : (wr0.alloc (.cells #[.pointer none, .map none, .int .i64 0] 83)).heap.size = wr0.heap.size + 1 := by simp
      have HK2 : Hid (Kp (fun _ => False) w u2) := by rw [hu2]; exact (HK0.out.alloc _).alloc _
      have l2 : Lv u2 wr0.heap.size [.pointer none, .map none, .int .i64 0] := by rw [hu2]; exact (Lv.new wr0 _ _).keep ((Kp.refl (fun _ => False) _).alloc _) id
      have l3 : Lv u2 (wr0.heap.size + 1) [.pointer none, .pointer (some ⟨wr0.heap.size, 0, none⟩)] := by rw [hu2, ← z1]; exact Lv.new _ _ _
      have HEb : Hid (∀ j : Nat, j < 2 → ∃ pv, u2.cell? ⟨wr0.heap.size + 1, j, none⟩ = some pv ∧ Ns u2 pv) := fun j hj => by
        have hj2 : j = 0 ∨ j = 1 := by omega
        rcases hj2 with rfl | rfl
        · exact ⟨_, l3.cell (j := 0) rfl, Or.inl rfl⟩
        · exact ⟨_, l3.cell (j := 1) rfl, Or.inr ⟨_, rfl, l2.cell (j := 0) rfl⟩⟩
      obtain ⟨r2, hr2⟩ : ∃ r, r = wr0.heap.size + 1 := ⟨_, rfl⟩
      rw [← hr2] at HEb ⊢
      clear hu2 z1 l2 l3 hr2
      go_loopg [71] 2 (fun gk i wr => ∃ (j : Nat), j ≤ 2 ∧ gk = 2 - j ∧ i = .int .i64 j ∧ Kp (fun _ => False) u2 wr)
      case atStart => exact ⟨0, by omega, rfl, rfl, Kp.refl _ _⟩
      case round =>
        obtain ⟨k2, hk2, rfl, rfl, kr2⟩ := hrel
        by_cases hlt2 : (k2 : Int) < 2
        · obtain ⟨pv, hpv, hnp⟩ := HEb.out k2 (by omega)
          have cp := kr2.cellv hpv id
          have HO : Hid (Calls _ _ _ wr _) := aopen_no pv wr (hnp.keep kr2)
          clear hpv hnp
          go_wp2_with (go_at_call 20; refine HO.out.mono ?_; rintro e w5 ⟨rfl, k5⟩)
          go_roundg (2 - (k2 + 1))
          case rel => exact ⟨k2 + 1, by omega, rfl, by go_num, kr2.trans k5 (fun _ _ e => e)⟩
          case measure => omega
        · go_wp2
          go_ret
          exact ⟨rfl, HK2.out.trans kr2 (fun _ _ e => e)⟩
theorem voteNobody_walk (i j : Int) (cs : Array Value) (w : World) (wi : (Lit.int .i64 i).wf = true) (wj : (Lit.int .i64 j).wf = true) (hcs : cs.size = 12) (_ht : Turns w) : Calls Tryz.prog 6 #[.int .i64 i, .int .i64 j, .agg cs] w fun e w' => e = .returned (.bool true) ∧ Kp (fun _ => False) w w' := voteNobody_walk0 i j cs hcs w
end Go.Proofs.YtifapelgkfhnhaaGreatDoor
