/- A delete that is asked and told (awake); the walk of the law CoordNobody (laid by scripts/mkzd.py). -/
import Derived.Test.YtmncocmeafcpfaaDoorZc
namespace Go.Proofs.YtmncocmeafcpfaaDoor
set_option linter.unusedVariables false
set_option linter.unusedSimpArgs false
open Go.RowKit Go.Deep

set_option maxRecDepth 100000 in
set_option maxHeartbeats 3200000 in
theorem awake19 (w : World) : Calls Tryd.prog 42 #[] w fun e w' => e = .returned (.bool true) ∧ Kp (fun _ => False) w w' := by
  go_enter Tryd.func42, Tryd.ntmps42
  go_wp2_with fail
  refine (new_del w).mono ?_
  rintro e w1 ⟨c, rfl, k1, hc, l1⟩
  have HL1 : Hid (Lv w1 c (callA 1 7 0 cmDel (.slice none 0 0) false (.slice none 0 0) (.pointer none) (.pointer none))) := l1
  have HC : Hid (Calls _ _ _ w1 _) := cmd_yes l1 (fun u k => slot_yes c 5 3 u ((l1.keep k id).cell (j := 3) rfl) (by decide) ((l1.keep k id).cell (j := 15) rfl) ((l1.keep k id).cell (j := 18) rfl) ((l1.keep k id).cell (j := 4) rfl) (by decide))
  have HK1 : Hid (Kp (fun _ => False) w w1 ∧ w.heap.size ≤ c) := ⟨k1, hc⟩
  clear k1 hc l1
  go_wp2_with (first
    | (go_at_call 39; refine HC.out.mono ?_; rintro e w2 ⟨q, cq, rfl, k2⟩; have HO : Hid ((cmdA cmDel (.slice q 0 cq)).toList.toArray.all (·.oneCell') = true) := cmd_one cmDel rfl)
    | (refine wpList_store_all rfl 42 _ _ rfl 12 w2.heap.size zeroC.toList (cmdA cmDel (.slice q 0 cq)).toList rfl rfl (by exact Lv.new w2 _ _) szCmd rfl rfl HO.out ?_; intro w3 hl3 k3; have x0 := hl3.cell (j := 0) rfl; have x1 := hl3.cell (j := 1) rfl; have k23 : Kp (fun _ => False) w1 w3 := k2.trans (((Kp.refl (fun _ => False) w2).alloc _).trans k3 (fun b hb e => by omega)) (fun _ _ e => e); have HA : Hid (Calls _ _ _ w3 _) := applied_del (HL1.out.keep k23 id) (by decide) rfl; have HK3 : Hid (Kp (fun _ => False) w w3) := HK1.out.1.trans k23 (fun _ _ e => e); clear hl3 k3 k23)
    | (go_at_call 37; refine HA.out.mono ?_; rintro e w4 ⟨g, rfl, hg, k4, l4, lg⟩; have HK4 : Hid (Kp (fun _ => False) w (w4.alloc (.cells #[.int .i64 7, .int .i64 1, .slice none 0 0] 96))) := (HK3.out.trans k4 (fun b hb e => by have := HK1.out.2; omega)).alloc _; have HS : Hid (Calls _ _ _ (w4.alloc (.cells #[.int .i64 7, .int .i64 1, .slice none 0 0] 96)) _) := same_told1 7 1 none none 0 0 0 0 [] g w4.heap.size 1 1 (w4.alloc (.cells #[.int .i64 7, .int .i64 1, .slice none 0 0] 96)) (lg.keep ((Kp.refl (fun _ => False) w4).alloc _) id) (Lv.new w4 _ _) (Rb.nil _ _) (Rb.nil _ _); have HL4 : Hid (Lv (w4.alloc (.cells #[.int .i64 7, .int .i64 1, .slice none 0 0] 96)) c (callA 1 7 0 cmDel (.slice none 0 0) true (.slice none 0 0) (.pointer none) (.pointer none))) := l4.keep ((Kp.refl (fun _ => False) w4).alloc _) id; clear k4 l4 lg)
    | (go_at_call 43; refine HS.out.mono ?_; rintro e w5 ⟨rfl, k5⟩; have HD : Hid (Calls _ _ _ w5 _) := cdone c 5 true w5 ((HL4.out.keep k5 id).cell (j := 3) rfl) (by decide) ((HL4.out.keep k5 id).cell (j := 15) rfl))
    | (go_at_call 40; refine HD.out.mono ?_; rintro e w6 ⟨rfl, hw6⟩; subst hw6))
  go_ret
  exact ⟨rfl, HK4.out.trans k5 (fun _ _ e => e)⟩

theorem lv_sub {w : World} {g : Nat} {cs : List Value} (h : Lv w g cs) (o n : Nat) : w.rangeAt g o ((cs.drop o).take n) := fun j u hu => by
  have hj : j < n := by
    have := (List.getElem?_eq_some_iff.1 hu).1
    rw [List.length_take] at this
    omega
  rw [List.getElem?_take_of_lt hj, List.getElem?_drop] at hu
  have := h.r (o + j) u hu
  rwa [Nat.zero_add] at this
theorem szCode : (Tryd.prog.info? 26).map (·.size) = some 2 := by kernel_rfl
theorem dsCode : ∃ d, Tryd.prog.underlying 26 = some d ∧ d.isRow = true := ⟨_, Tryd.underlying26, rfl⟩
theorem szOut : (Tryd.prog.info? 87).map (·.size) = some 8 := by kernel_rfl
theorem dsOut : ∃ d, Tryd.prog.underlying 87 = some d ∧ d.isRow = true := ⟨_, Tryd.underlying87, rfl⟩

abbrev zCall : Array Value := #[.int .i64 0, .int .i64 0, .int .i64 0, .int .i64 0, .int .i64 0, .string ⟨#[]⟩, .int .i64 0, .int .i64 0, .int .i64 0, .int .i64 0, .int .i64 0, .int .u32 0, .int .i64 0, .int .i64 0, .slice none 0 0, .bool false, .slice none 0 0, .pointer none, .pointer none]
set_option maxRecDepth 100000 in
set_option maxHeartbeats 3200000 in
theorem coordNobody_walk (c : Array Value) (w : World) (hsz : c.size = 37) :
    Calls Tryd.prog 11 #[.agg c] w fun e w' => e = .returned (.bool true) ∧ Kp (fun _ => False) w w' := by
  have HAw : Hid (∀ z, Calls Tryd.prog 42 #[] z _) := fun z => awake19 z
  obtain ⟨cs, hcs⟩ : ∃ cs, cs = c.toList := ⟨_, rfl⟩
  obtain rfl : c = cs.toArray := by rw [hcs]
  have hln : cs.length = 37 := by simpa using hsz
  have kA : Kp (fun _ => False) w (w.alloc (.cells cs.toArray 89)) := (Kp.refl _ _).alloc _
  have HX : Hid (Lv (w.alloc (.cells cs.toArray 89)) w.heap.size cs) := Lv.new w cs.toArray 89
  have HLN : Hid (cs.length = 37) := hln
  clear hcs hsz hln
  go_enter Tryd.func11, Tryd.ntmps11
  go_wp2
  have s1 : (w.alloc (.cells cs.toArray 89)).heap.size = w.heap.size + 1 := by simp
  have s2 : ((w.alloc (.cells cs.toArray 89)).alloc (.cells zCall 106)).heap.size = w.heap.size + 2 := by simp
  have kB : Kp (fun _ => False) w (((w.alloc (.cells cs.toArray 89)).alloc (.cells zCall 106)).alloc (.cells #[.pointer none, .pointer (some ⟨w.heap.size + 1, 0, none⟩)] 83)) := (kA.alloc _).alloc _
  have lz : Lv (((w.alloc (.cells cs.toArray 89)).alloc (.cells zCall 106)).alloc (.cells #[.pointer none, .pointer (some ⟨w.heap.size + 1, 0, none⟩)] 83)) (w.heap.size + 1) zCall.toList := by
    have hh := Lv.new (w.alloc (.cells cs.toArray 89)) zCall 106
    rw [s1] at hh
    exact hh.keep ((Kp.refl (fun _ => False) _).alloc _) id
  have lp : Lv (((w.alloc (.cells cs.toArray 89)).alloc (.cells zCall 106)).alloc (.cells #[.pointer none, .pointer (some ⟨w.heap.size + 1, 0, none⟩)] 83)) (w.heap.size + 2) [.pointer none, .pointer (some ⟨w.heap.size + 1, 0, none⟩)] := by
    have hh := Lv.new ((w.alloc (.cells cs.toArray 89)).alloc (.cells zCall 106)) #[.pointer none, .pointer (some ⟨w.heap.size + 1, 0, none⟩)] 83
    rw [s2] at hh
    exact hh
  have lx : Lv (((w.alloc (.cells cs.toArray 89)).alloc (.cells zCall 106)).alloc (.cells #[.pointer none, .pointer (some ⟨w.heap.size + 1, 0, none⟩)] 83)) w.heap.size cs := HX.out.keep (((Kp.refl (fun _ => False) _).alloc _).alloc _) id
  obtain ⟨W0, hW0⟩ : ∃ x, x = (((w.alloc (.cells cs.toArray 89)).alloc (.cells zCall 106)).alloc (.cells #[.pointer none, .pointer (some ⟨w.heap.size + 1, 0, none⟩)] 83)) := ⟨_, rfl⟩
  rw [← hW0] at kB lz lp lx
  have HA : Hid (Kp (fun _ => False) w W0 ∧ Lv W0 (w.heap.size + 1) zCall.toList ∧ Lv W0 (w.heap.size + 2) [.pointer none, .pointer (some ⟨w.heap.size + 1, 0, none⟩)] ∧ Lv W0 w.heap.size cs) := ⟨kB, lz, lp, lx⟩
  have HW0 : Hid (W0 = (((w.alloc (.cells cs.toArray 89)).alloc (.cells zCall 106)).alloc (.cells #[.pointer none, .pointer (some ⟨w.heap.size + 1, 0, none⟩)] 83))) := hW0
  clear kA HX s1 s2 kB lz lp lx hW0
  have H4 : Hid (∃ vn, cs[4]? = some vn) := by
    have := HLN.out
    exact ⟨cs[4], List.getElem?_eq_getElem (by omega)⟩
  have H1 : Hid (∃ x1, cs[1]? = some x1) := by
    have := HLN.out
    exact ⟨cs[1], List.getElem?_eq_getElem (by omega)⟩
  obtain ⟨vn, h4⟩ := H4.out
  obtain ⟨x1, h1⟩ := H1.out
  have HS : Hid (∀ z, Kp (fun _ => False) W0 z → (loadVar 26 ⟨w.heap.size, 2, none⟩).run Tryd.prog z = .ok (.agg ((cs.drop 2).take 2).toArray) z ∧ z.cell? ⟨w.heap.size, 4, none⟩ = some vn ∧ (loadVar 45 ⟨w.heap.size, 5, none⟩).run Tryd.prog z = .ok (.agg ((cs.drop 5).take 24).toArray) z ∧ z.cell? ⟨w.heap.size, 1, none⟩ = some x1 ∧ (loadVar 87 ⟨w.heap.size, 29, none⟩).run Tryd.prog z = .ok (.agg ((cs.drop 29).take 8).toArray) z) := fun z kz => by
    have lx := HA.out.2.2.2.keep kz id
    have hl := HLN.out
    obtain ⟨dc, hc1, hc2⟩ := dsCode
    obtain ⟨dm, hm1, hm2⟩ := dsMsg
    obtain ⟨dO, ho1, ho2⟩ := dsOut
    exact ⟨run_loadVar_mid z _ 2 _ _ dc (lv_sub lx 2 2) hc1 hc2 (by rw [szCode]; simp; omega), lx.cell h4, run_loadVar_mid z _ 5 _ _ dm (lv_sub lx 5 24) hm1 hm2 (by rw [szMsg]; simp; omega), lx.cell h1, run_loadVar_mid z _ 29 _ _ dO (lv_sub lx 29 8) ho1 ho2 (by rw [szOut]; simp; omega)⟩
  clear h4 h1 H4 H1
  obtain ⟨bx, hbx⟩ : ∃ bx, bx = w.heap.size := ⟨_, rfl⟩
  go_loopg [11] 2 (fun gk i wr => ∃ (k : Nat), k ≤ 2 ∧ gk = 2 - k ∧ i = .int .i64 k ∧ Hid (Kp (fun _ => False) W0 wr))
  case atStart => exact ⟨0, by omega, rfl, rfl, by rw [HW0.out]; exact Kp.refl _ _⟩
  case round =>
    obtain ⟨k, hk, rfl, rfl, HK⟩ := hrel
    clear HW0
    obtain ⟨wr0, rfl⟩ : ∃ x, x = wr := ⟨_, rfl⟩
    by_cases hlt : (k : Int) < 2
    · obtain ⟨v, hv, hnk⟩ : ∃ v, wr0.cell? ⟨w.heap.size + 2, 0 + k, none⟩ = some v ∧ Nk W0 v := by
        have lp := HA.out.2.2.1.keep HK.out id
        have hk2 : k = 0 ∨ k = 1 := by omega
        rcases hk2 with rfl | rfl
        · exact ⟨.pointer none, lp.cell (j := 0) rfl, Or.inl rfl⟩
        · exact ⟨.pointer (some ⟨w.heap.size + 1, 0, none⟩), lp.cell (j := 1) rfl, Or.inr ⟨_, rfl, HA.out.2.1.cell (j := 3) rfl⟩⟩
      have HN : Hid (∀ z, Kp (fun _ => False) W0 z → Nk z v) := fun z kz => hnk.keep kz
      have HC : Hid (Calls _ _ _ wr0 _) := kcmd v wr0 (HN.out _ HK.out)
      have HO : Hid (zeroC.toList.toArray.all (·.oneCell') = true) := zeroC_one
      have hv' : wr0.cell? ⟨w.heap.size + 2, k, none⟩ = some v := by simpa using hv
      clear hv hnk
      go_wp2_with (first
        | (go_at_call 39; refine HC.out.mono ?_; rintro e w2 ⟨rfl, k2⟩)
        | (refine wpList_store_all rfl 42 _ _ rfl 12 w2.heap.size zeroC.toList zeroC.toList rfl rfl (by exact Lv.new w2 _ _) szCmd rfl rfl HO.out ?_; intro w3 hl3 k3; have HK3 : Hid (Kp (fun _ => False) W0 w3) := (HK.out.trans k2 (fun _ _ e => e)).trans (((Kp.refl (fun _ => False) w2).alloc _).trans k3 (fun b hb e => by omega)) (fun _ _ e => e); clear hl3 k3))
      have kd : Kp (fun _ => False) W0 w3.drew := HK3.out.drew
      refine cb5_region ⟨by kernel_rfl, by kernel_rfl, by kernel_rfl, by kernel_rfl, by kernel_rfl, by kernel_rfl, by kernel_rfl, by kernel_rfl, by kernel_rfl, by kernel_rfl, by kernel_rfl, by kernel_rfl, by kernel_rfl, by kernel_rfl, by kernel_rfl, by kernel_rfl, by kernel_rfl, by kernel_rfl, by kernel_rfl, by kernel_rfl, by kernel_rfl, by kernel_rfl, by kernel_rfl, by kernel_rfl, by kernel_rfl, by kernel_rfl, by kernel_rfl, by kernel_rfl, by kernel_rfl, by kernel_rfl, by kernel_rfl, by kernel_rfl, by kernel_rfl, by kernel_rfl, by kernel_rfl, by kernel_rfl, by kernel_rfl, by kernel_rfl, by kernel_rfl, by kernel_rfl, by kernel_rfl, by kernel_rfl, by kernel_rfl, by kernel_rfl, by kernel_rfl, by kernel_rfl, by kernel_rfl, by kernel_rfl, by kernel_rfl, by kernel_rfl, by kernel_rfl, by kernel_rfl, by kernel_rfl, by kernel_rfl, by kernel_rfl, by kernel_rfl, by kernel_rfl, by kernel_rfl⟩ w.heap.size v vn x1 _ _ _ (fun d _ _ _ _ h => by cases d <;> exact h) (by rfl) (by rfl) (by rfl) (by rfl) (HS.out _ kd) (fun z => Kp (fun _ => False) W0 z) ((kplace v _ vn w3.drew (HN.out _ kd)).mono ?_) ?_
      · rintro e z1 ⟨rfl, j1⟩
        have q1 := kd.trans j1 (fun _ _ e => e)
        refine ⟨rfl, HS.out z1 q1, (kasks v _ z1 (HN.out _ q1)).mono ?_⟩
        rintro e z2 ⟨rfl, hz2⟩
        obtain rfl := hz2.symm
        refine ⟨rfl, HS.out z1 q1, (kon v _ _ z1 (HN.out _ q1)).mono ?_⟩
        rintro e z3 ⟨rfl, j3⟩
        have q3 := q1.trans j3 (fun _ _ e => e)
        refine ⟨rfl, HS.out z3 q3, (kapplied v _ _ z3 (HN.out _ q3)).mono ?_⟩
        rintro e z4 ⟨rfl, j4⟩
        have q4 := q3.trans j4 (fun _ _ e => e)
        refine ⟨rfl, HS.out z4 q4, (ktick v _ z4 (HN.out _ q4)).mono ?_⟩
        rintro e z5 ⟨rfl, hz5⟩
        obtain rfl := hz5.symm
        refine ⟨rfl, HS.out z4 q4, (kdone v z4 (HN.out _ q4)).mono ?_⟩
        rintro e z6 ⟨rfl, hz6⟩
        obtain rfl := hz6.symm
        exact ⟨rfl, HS.out z4 q4, q4⟩
      intro z9 hT
      simp only [Act.put, List.setIfInBounds_toArray, List.set_cons_succ, List.set_cons_zero]
      have HT : Hid (Kp (fun _ => False) W0 z9) := hT
      clear hT kd HS HN HK3 HC HK
      go_wp2
      go_roundg (2 - (k + 1))
      case rel => exact ⟨k + 1, by omega, rfl, by go_num, HT⟩
      case measure => omega
    · obtain rfl : k = 2 := by omega
      go_wp2_with (go_at_call 42; refine (HAw.out _).mono ?_; rintro e w2 ⟨rfl, k2⟩)
      go_ret
      exact ⟨rfl, (HA.out.1.trans HK.out (fun _ _ e => e)).trans k2 (fun _ _ e => e)⟩
end Go.Proofs.YtmncocmeafcpfaaDoor
